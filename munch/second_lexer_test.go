package munch_test

import (
	"maps"
	"math/rand"
	"slices"
	"testing"

	"munch/munch"
)

// This file reads P9 and P10 a second time: from the whole text, at each call anew.

// second says how many of the tokens of a text are sure, and whether it is sure to be stuck behind them.
type second interface {
	tokens(text string) []munch.Token
	surely(text string) (int, bool)
}

// trier tries all that may come behind a text, up to so many signs.
type trier struct {
	cutter
	most  int
	found map[string]finding
}

type finding struct {
	count int
	stuck bool
}

func newTrier(list, signs string, most int) trier {
	return trier{newCutter(list, signs), most, map[string]finding{}}
}

func (s trier) surely(text string) (int, bool) {
	out, met := s.found[text]
	if !met {
		tokens := s.tokens(text)
		out.count = s.sure(text, s.most)
		out.stuck = out.count == len(tokens) && endOf(tokens) < len(text) && s.neverMore(text, len(tokens), s.most)
		s.found[text] = out
	}
	return out.count, out.stuck
}

// neverMore tells whether there are never more than so many tokens, whatever comes behind of at most so many signs.
func (s trier) neverMore(text string, count, most int) bool {
	if len(s.tokens(text)) > count {
		return false
	}
	for i := 0; i < len(s.signs) && most > 0; i++ {
		if !s.neverMore(text+s.signs[i:i+1], count, most-1) {
			return false
		}
	}
	return true
}

func endOf(tokens []munch.Token) int {
	if len(tokens) == 0 {
		return 0
	}
	return tokens[len(tokens)-1].To
}

// walker asks the list's table whether more can come. The tags are those of the second reading.
type walker struct {
	cutter
	states secondTable
}

func (s walker) surely(text string) (int, bool) {
	tokens := s.tokens(text)
	for i, token := range tokens {
		if s.mayGoOn(text[token.From:]) {
			return i, false
		}
	}
	rest := text[endOf(tokens):]
	return len(tokens), rest != "" && !s.mayGoOn(rest)
}

func (s walker) mayGoOn(text string) bool {
	at := 0
	for i := 0; i < len(text) && at >= 0; i++ {
		at = s.next(at, text[i])
	}
	return at >= 0 && len(s.states[at].edges) > 0
}

func (s walker) next(at int, b byte) int { return s.states.next(at, int(b)) }

// tryPieces feeds a text in pieces and closes it. It answers whether the lexer is as it was made.
func tryPieces(t *testing.T, x *munch.Lexer, list string, s second, pieces []string) bool {
	t.Helper()
	text, done, stuck := "", 0, false
	compare := func(name string, want []munch.Token, wantStuck bool, place int, got []munch.Token, fault munch.Errno, gotPlace int) {
		t.Helper()
		wantFault := munch.OK
		if wantStuck {
			wantFault = munch.ErrStuck
		} else {
			place = 0
		}
		if !slices.Equal(got, want) || fault != wantFault || gotPlace != place {
			t.Fatalf("P10: by %q, %s behind the pieces %q of %q tells %v %d %d, want %v %d %d", list, name, pieces, text, got, fault, gotPlace, want, wantFault, place)
		}
	}
	for _, piece := range pieces {
		got, fault, place := x.Feed(piece)
		if !stuck {
			text += piece
			count, isStuck := s.surely(text)
			all := s.tokens(text)
			compare("Feed", all[done:count], isStuck, endOf(all), got, fault, place)
			done, stuck = count, isStuck
		} else {
			compare("Feed", nil, true, endOf(s.tokens(text)), got, fault, place)
		}
	}
	all := s.tokens(text)
	got, fault, place := x.Close()
	isStuck := endOf(all) < len(text)
	compare("Close", all[done:], isStuck, endOf(all), got, fault, place)
	if isStuck {
		got, fault, place = x.Feed(text)
		compare("Feed", nil, true, endOf(all), got, fault, place)
		got, fault, place = x.Close()
		compare("Close", nil, true, endOf(all), got, fault, place)
	}
	return !isStuck
}

// allWays tells all ways to cut a text into pieces that are not empty.
func allWays(text string, tell func(pieces []string)) {
	for way := range 1 << max(len(text)-1, 0) {
		var pieces []string
		from := 0
		for i := 1; i < len(text); i++ {
			if way>>(i-1)&1 == 1 {
				pieces = append(pieces, text[from:i])
				from = i
			}
		}
		tell(append(pieces, text[from:]))
	}
}

// withEmpties puts empty pieces between.
func withEmpties(r *rand.Rand, pieces []string) []string {
	var out []string
	for _, piece := range pieces {
		for range r.Intn(3) {
			out = append(out, "")
		}
		out = append(out, piece)
	}
	return append(out, "")
}

func cutAnyhow(r *rand.Rand, text string) []string {
	var pieces []string
	for text != "" {
		n := 1 + r.Intn(min(len(text), 1+r.Intn(6)))
		pieces = append(pieces, text[:n])
		text = text[n:]
	}
	return withEmpties(r, pieces)
}

func cutIntoBytes(text string) []string {
	var pieces []string
	for i := range len(text) {
		pieces = append(pieces, text[i:i+1])
	}
	return pieces
}

// tryAllWays feeds all short texts in all ways, by one lexer as long as it is not stuck.
func tryAllWays(t *testing.T, r *rand.Rand, list, signs string, s second, most int) {
	t.Helper()
	x := mustNew(t, list)
	try := func(pieces []string) {
		if !tryPieces(t, x, list, s, pieces) {
			x = mustNew(t, list)
		}
	}
	shortTexts(signs, most, func(text string) bool {
		allWays(text, func(pieces []string) {
			try(pieces)
			if r.Intn(4) == 0 {
				try(withEmpties(r, pieces))
			}
		})
		return true
	})
}

func TestAllWaysToCutAText(t *testing.T) {
	r := rand.New(rand.NewSource(50))
	for _, list := range []string{
		"a|aab\nb", "a", "a*", "a+\nb", "ab", "a|abb", "(ab)+", "a|ab*a", "a\nbab", "a|ba|bba", "a|b|(aa)*b", "a{2,3}", "a\nb\na*bb", ".*b\na", "a|b|aba", "a.?", "!a", "!ab", "!a&!b", "a.*\nb", "a|(bb)*a",
		"", "[]", "\n", "|a", "\na*", ".*", "!", "!.*", "a&b", ".*\na", "[]\n", "[^]", "a|a[]", "a|.*bb",
	} {
		s := newTrier(list, "ab", 3)
		if states := tryCompile(t, list); !states.nearTags(s.most) {
			t.Fatalf("%d signs are not enough to tell what is sure by %q", s.most, list)
		}
		tryAllWays(t, r, list, "ab", s, 6)
	}
}

func TestAllWaysMadeUpLists(t *testing.T) {
	r := rand.New(rand.NewSource(51))
	for tried := 0; tried < 40; {
		list := listOfTwoSigns(r)
		if tryCompile(t, list).nearTags(3) {
			tryAllWays(t, r, list, "ab", newTrier(list, "ab", 3), 5)
			tried++
		}
	}
}

// tryMadeUpTexts feeds texts that go on for a while before they are stuck.
func tryMadeUpTexts(t *testing.T, r *rand.Rand, list string, count int) (tokens int) {
	t.Helper()
	table, _, _ := munch.Compile(list)
	states, _, _ := secondReadAnyLength(table)
	s := walker{newCutter(list, ""), states}
	x := mustNew(t, list)
	for range count {
		text := hopefulText(r, states, r.Intn(25))
		tokens += len(s.tokens(text))
		for _, pieces := range [][]string{{text}, cutIntoBytes(text), cutAnyhow(r, text), cutAnyhow(r, text)} {
			if !tryPieces(t, x, list, s, pieces) {
				x = mustNew(t, list)
			}
		}
	}
	return tokens
}

// hopefulText makes up a text by going over a table, and from its start again where one cannot go on, or has a tag, and now and then anywhere.
func hopefulText(r *rand.Rand, states secondTable, length int) string {
	text, at := "", 0
	for len(text) < length {
		edges := states[at].edges
		if len(edges) == 0 || r.Intn(12) == 0 {
			text, at = text+string([]byte{"abc\x00\xff"[r.Intn(5)]}), 0
			continue
		}
		e := edges[r.Intn(len(edges))]
		b := []int{e.from, e.to, e.from + r.Intn(e.to-e.from+1)}[r.Intn(3)]
		text, at = text+string([]byte{byte(b)}), e.state
		if len(states[at].edges) == 0 || states[at].tag >= 0 && r.Intn(2) == 0 {
			at = 0
		}
	}
	return text
}

func TestLexerMadeUpLists(t *testing.T) {
	r := rand.New(rand.NewSource(52))
	tokens := 0
	for range 600 {
		tokens += tryMadeUpTexts(t, r, madeGoodList(r), 4)
	}
	if tokens < 5000 {
		t.Errorf("the texts have only %d tokens", tokens)
	}
}

func TestLexerHeavyLists(t *testing.T) {
	r := rand.New(rand.NewSource(53))
	for _, list := range slices.Sorted(maps.Keys(heavyLists())) {
		tryMadeUpTexts(t, r, list, 10)
	}
	for _, list := range []string{
		"[ab]*a[ab]{6,6}c\n[ab]", "a|(a{8,8})*b", "a\n(a{3,3})*b\n(a{4,4})*c", "a|(.{7,7})*b", "a(b{8,8}c)?", "a\nb\nc\nd\ne", ".*[a-c].{6,6}\n.", "!.*a.{6,6}\na",
		"(aa)*b&(aaa)*b\na\n.{2,2}", rep("(a?", 8) + rep(")*", 8), "\n\n\n\n", rep("|", 80), rep("a", 10), "[]{9,9}",
	} {
		tryMadeUpTexts(t, r, list, 10)
	}
}

// Two lists that mean the same make lexers that tell the same.
func TestLexersOfTheSameMeaning(t *testing.T) {
	r := rand.New(rand.NewSource(54))
	for range 500 {
		a, b := twoWritten(r)
		x, y := mustNew(t, a), mustNew(t, b)
		states, _, _ := secondReadAnyLength(tableOf(a))
		for range 3 {
			for _, piece := range cutAnyhow(r, hopefulText(r, states, r.Intn(15))) {
				if ofA, ofB := told(x.Feed(piece)), told(y.Feed(piece)); ofA != ofB {
					t.Fatalf("P10: behind the same pieces, %q tells %q, %q tells %q", a, ofA, b, ofB)
				}
			}
			if ofA, ofB := told(x.Close()), told(y.Close()); ofA != ofB {
				t.Fatalf("P10: behind the same pieces, Close by %q tells %q, by %q %q", a, ofA, b, ofB)
			}
		}
	}
}
