package munch_test

import (
	"fmt"
	"math/rand"
	"regexp"
	"strings"

	"munch/munch"
)

// This file is a second reading of the document, made in another way than the program: lists by one pass with a state and no trees, words by the library's regular expressions. The tests hold the program against it.

type mode int

const (
	atPart    mode = iota // where a part may begin
	atRow                 // where no atom stands ahead
	atAtom                // right behind an atom
	atEscape              // behind \
	atSet                 // behind [
	atSpan                // where a span may begin
	atSpanEsc             // behind \ in a span
	atDash                // behind a span's first byte
	atEnd                 // behind -
	atEndEsc              // behind - and \
	atLeast               // behind {
	atComma
	atMost
	atBrace
)

type pass struct {
	mode     mode
	patterns int
	sums     []int // weights: one for the list, one for each open bracket
	last     int   // weight of the last atom
	from     byte  // first byte of a span, first digit of {m,n}
	deep     int   // place of the first bracket too many, or -1
}

// secondCheck is P3, read again.
func secondCheck(list string) (munch.Errno, int) {
	if len(list) > 80 {
		return munch.ErrLong, 0
	}
	p := &pass{patterns: 1, sums: []int{0}, deep: -1}
	for i := range len(list) {
		if !p.step(list[i], i) {
			return munch.ErrText, i
		}
	}
	switch {
	case p.mode > atAtom || len(p.sums) > 1:
		return munch.ErrText, len(list)
	case p.deep >= 0:
		return munch.ErrNest, p.deep
	case p.sums[0] > 10:
		return munch.ErrWeight, 0
	}
	return munch.OK, 0
}

func (p *pass) to(m mode) bool { p.mode = m; return true }

func (p *pass) atomOf(weight int) bool {
	p.last = weight
	p.sums[len(p.sums)-1] += weight
	return p.to(atAtom)
}

func (p *pass) step(c byte, at int) bool {
	barred := strings.IndexByte("\n][^-", c) >= 0
	switch p.mode {
	case atPart, atRow, atAtom:
		return p.open(c, at)
	case atEscape:
		return c != '\n' && p.atomOf(1)
	case atSet, atSpan, atDash:
		switch {
		case c == '^' && p.mode == atSet:
			return p.to(atSpan)
		case c == '-' && p.mode == atDash:
			return p.to(atEnd)
		case c == ']':
			return p.atomOf(1)
		case c == '\\':
			return p.to(atSpanEsc)
		}
		p.from = c
		return !barred && p.to(atDash)
	case atSpanEsc:
		p.from = c
		return p.to(atDash)
	case atEnd:
		if c == '\\' {
			return p.to(atEndEsc)
		}
		return !barred && c >= p.from && p.to(atSpan)
	case atEndEsc:
		return c >= p.from && p.to(atSpan)
	case atLeast:
		p.from = c
		return c >= '0' && c <= '9' && p.to(atComma)
	case atComma:
		return c == ',' && p.to(atMost)
	case atMost:
		p.sums[len(p.sums)-1] += (int(c) - '1') * p.last
		return c >= '1' && c <= '9' && c >= p.from && p.to(atBrace)
	}
	return c == '}' && p.to(atRow)
}

func (p *pass) open(c byte, at int) bool {
	outer := len(p.sums) == 1
	switch c {
	case '*', '+', '?':
		return p.mode == atAtom && p.to(atRow)
	case '{':
		return p.mode == atAtom && p.to(atLeast)
	case '!':
		return p.mode == atPart && p.to(atRow)
	case '|':
		return p.to(atRow)
	case '&':
		return outer && p.to(atPart)
	case '\n':
		p.patterns++
		return outer && p.patterns <= 5 && p.to(atPart)
	case '(':
		p.sums = append(p.sums, 0)
		if len(p.sums) == 10 && p.deep < 0 {
			p.deep = at
		}
		return p.to(atRow)
	case ')':
		if outer {
			return false
		}
		inner := p.sums[len(p.sums)-1]
		p.sums = p.sums[:len(p.sums)-1]
		return p.atomOf(inner)
	case '[':
		return p.to(atSet)
	case '\\':
		return p.to(atEscape)
	case ']', '}':
		return false
	}
	return p.atomOf(1)
}

// secondPart is a part as a regular expression over runes 0 to 255, one for each byte.
type secondPart struct {
	not  bool
	like *regexp.Regexp
}

// secondTag is P4, read again, for a list that is good; ready it once, and ask it often.
type secondTag [][]secondPart

func ready(list string) secondTag {
	var out secondTag
	var parts []secondPart
	var form strings.Builder
	not := false
	end := func() {
		parts = append(parts, secondPart{not, regexp.MustCompile(`\A(?:` + form.String() + `)\z`)})
		form.Reset()
		not = false
	}
	for i := 0; i < len(list); i++ {
		switch c := list[i]; c {
		case '\n':
			end()
			out, parts = append(out, parts), nil
		case '&':
			end()
		case '!':
			not = true
		case '(':
			form.WriteString("(?:")
		case ')', '|', '*', '+', '?':
			form.WriteByte(c)
		case '{':
			form.WriteString(list[i : i+5])
			i += 4
		case '.':
			form.WriteString(`[\x{0}-\x{ff}]`)
		case '[':
			text, width := class(list[i:])
			form.WriteString(text)
			i += width - 1
		case '\\':
			i++
			fmt.Fprintf(&form, `\x{%x}`, list[i])
		default:
			fmt.Fprintf(&form, `\x{%x}`, c)
		}
	}
	end()
	return append(out, parts)
}

// class tells the bytes between [ and ] one by one, and how long the text is.
func class(text string) (string, int) {
	i, not := 1, false
	if text[i] == '^' {
		i, not = 2, true
	}
	next := func() byte {
		if text[i] == '\\' {
			i++
		}
		i++
		return text[i-1]
	}
	var in [256]bool
	for text[i] != ']' {
		from := next()
		to := from
		if text[i] == '-' {
			i++
			to = next()
		}
		for b := int(from); b <= int(to); b++ {
			in[b] = true
		}
	}
	out := `[^\x{0}-\x{10ffff}]`
	for b := range in {
		if in[b] != not {
			out += fmt.Sprintf(`|\x{%x}`, b)
		}
	}
	return "(?:" + out + ")", i + 1
}

func (s secondTag) tag(w string) int {
	runes := make([]rune, len(w))
	for i := range len(w) {
		runes[i] = rune(w[i])
	}
	text := string(runes)
	for number, parts := range s {
		fits := true
		for _, p := range parts {
			fits = fits && p.like.MatchString(text) != p.not
		}
		if fits {
			return number
		}
	}
	return -1
}

// Making up lists. The source has a fixed seed, so each run makes up the same ones.

func madeList(r *rand.Rand) string {
	patterns := make([]string, 1+r.Intn(3))
	for i := range patterns {
		parts := make([]string, 1+r.Intn(3)/2)
		for j := range parts {
			parts[j] = []string{"", "", "!"}[r.Intn(3)] + madeForm(r, 3)
		}
		patterns[i] = strings.Join(parts, "&")
	}
	return strings.Join(patterns, "\n")
}

func madeForm(r *rand.Rand, deep int) string {
	rows := make([]string, 1+r.Intn(4)/2)
	for i := range rows {
		for range r.Intn(4) {
			rows[i] += madeAtom(r, deep) + madeBehind(r)
		}
	}
	return strings.Join(rows, "|")
}

func madeAtom(r *rand.Rand, deep int) string {
	if deep > 0 && r.Intn(4) == 0 {
		return "(" + madeForm(r, deep-1) + ")"
	}
	atoms := []string{"a", "b", "c", "a", "b", ".", "[ab]", "[^a]", "[b-c]", "[]", "[^]", `\a`, `\\`, `[\]-a]`, "[^a-b]", "[\\\n\\-]", "\xff", "[b-\xff]"}
	return atoms[r.Intn(len(atoms))]
}

func madeBehind(r *rand.Rand) string {
	behind := []string{"", "", "", "", "*", "+", "?", "{0,1}", "{1,1}", "{0,2}", "{1,3}", "{2,2}", "{2,4}"}
	return behind[r.Intn(len(behind))]
}

// madeGoodList makes up lists until one is good.
func madeGoodList(r *rand.Rand) string {
	for {
		list := madeList(r)
		if fault, _ := secondCheck(list); fault == munch.OK {
			return list
		}
	}
}

func madeText(r *rand.Rand, signs string, most int) string {
	text := make([]byte, r.Intn(most+1))
	for i := range text {
		text[i] = signs[r.Intn(len(signs))]
	}
	return string(text)
}
