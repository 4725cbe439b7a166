package munch_test

import (
	"math/rand"
	"strconv"
	"strings"

	"munch/munch"
)

// This file makes up what a list means, and writes it down in one of many ways.

// thing is a form's meaning. Its kind is a byte's sign for a set of bytes, 'r' for a row, 'o' for a choice, '*', '+', '?', or '{' for a count.
type thing struct {
	kind        byte
	kids        []thing
	least, most int
}

// kindsOfSets are signs for sets of bytes, each with ways to write it.
var kindsOfSets = map[byte][]string{
	'a': {"a", `\a`, "[a]", "[a-a]", "(a)", "(a|a)", "[aa]", "(a|[])"},
	'b': {"b", `\b`, "[b]", `[\b-b]`, "((b))"},
	'2': {"[ab]", "[ba]", "[a-b]", "(a|b)", "([b]|a)", "[aab]"},
	'.': {".", "[^]", "[\x00-\xff]", "(a|[^a])", "[a-\xff\x00-`]"},
	'^': {"[^a]", "[b-\xff\x00-`]", "([\x00-`]|[b-\xff])", "[^a-a]"},
}

func madeThing(r *rand.Rand, deep int) thing {
	if deep == 0 {
		return thing{kind: "aaabb2.^"[r.Intn(8)]}
	}
	switch r.Intn(9) {
	case 0, 1, 2:
		return thing{kind: 'r', kids: []thing{madeThing(r, deep-1), madeThing(r, deep-1)}}
	case 3, 4:
		return thing{kind: 'o', kids: []thing{madeThing(r, deep-1), madeThing(r, deep-1)}}
	case 5:
		least := r.Intn(3)
		return thing{kind: '{', kids: []thing{madeThing(r, deep-1)}, least: least, most: max(1, least+r.Intn(2))}
	}
	return thing{kind: "*+?"[r.Intn(3)], kids: []thing{madeThing(r, deep-1)}}
}

// written answers an atom. The plain way is always the same one.
func (x thing) written(r *rand.Rand, plain bool) string {
	pick := func(ways ...string) string {
		if plain {
			return ways[0]
		}
		return ways[r.Intn(len(ways))]
	}
	if ways, ok := kindsOfSets[x.kind]; ok {
		return pick(ways...)
	}
	k := x.kids[0].written(r, plain)
	switch x.kind {
	case 'r':
		k2 := x.kids[1].written(r, plain)
		return pick("("+k+k2+")", "(("+k+")"+k2+")", "("+k+"()"+k2+")", "("+k+k2+"|"+k+k2+")", "("+k+k2+"{1,1})")
	case 'o':
		k2 := x.kids[1].written(r, plain)
		return pick("("+k+"|"+k2+")", "("+k2+"|"+k+")", "("+k+"|"+k2+"|"+k+")", "("+k+"|[]|"+k2+")")
	case '*':
		return pick("("+k+"*)", "(("+k+"*)*)", "("+k+"+|)", "(("+k+"?)+)", "((|"+k+")*)", "("+k+"*"+k+"*)")
	case '+':
		return pick("("+k+"+)", "("+k+k+"*)", "("+k+"*"+k+")", "(("+k+"+)+)", "("+k+"{1,1}"+k+"*)")
	case '?':
		return pick("("+k+"?)", "("+k+"|)", "(|"+k+")", "("+k+"{0,1})")
	}
	long := rep(k, x.least) + rep("("+k, x.most-x.least) + rep(")?", x.most-x.least)
	return pick("("+k+"{"+strconv.Itoa(x.least)+","+strconv.Itoa(x.most)+"})", "("+long+")")
}

// meaning is what a list means: patterns of parts, each perhaps with a not.
type meaning [][]struct {
	not  bool
	form thing
}

func madeMeaning(r *rand.Rand) meaning {
	out := make(meaning, 1+r.Intn(5)/2)
	for i := range out {
		out[i] = make([]struct {
			not  bool
			form thing
		}, 1+r.Intn(4)/3)
		for j := range out[i] {
			out[i][j].not, out[i][j].form = r.Intn(4) == 0, madeThing(r, 1+r.Intn(2))
		}
	}
	return out
}

func (m meaning) written(r *rand.Rand, plain bool) string {
	var patterns []string
	for _, pattern := range m {
		var parts []string
		for _, part := range pattern {
			form := part.form.written(r, plain)
			if part.not {
				form = "!" + form
			}
			parts = append(parts, form)
		}
		if !plain {
			parts = append(parts, [][]string{nil, nil, {".*"}, {"![]"}, {parts[0]}}[r.Intn(5)]...)
			r.Shuffle(len(parts), func(i, j int) { parts[i], parts[j] = parts[j], parts[i] })
		}
		patterns = append(patterns, strings.Join(parts, "&"))
	}
	if !plain && len(patterns) < 5 {
		patterns = append(patterns, [][]string{nil, nil, {"[]"}, {"!.*"}, {patterns[0]}}[r.Intn(5)]...)
	}
	return strings.Join(patterns, "\n")
}

// twoWritten answers two good lists that mean the same.
func twoWritten(r *rand.Rand) (string, string) {
	for {
		m := madeMeaning(r)
		plain := m.written(r, true)
		if fault, _ := secondCheck(plain); fault != munch.OK {
			continue
		}
		for range 5 {
			other := m.written(r, false)
			if fault, _ := secondCheck(other); fault == munch.OK && other != plain {
				return plain, other
			}
		}
	}
}
