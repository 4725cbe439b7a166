package munch_test

import (
	"math/rand"
	"strings"
	"testing"

	"munch/munch"
)

func TestAhead(t *testing.T) {
	for _, c := range []struct {
		want  int
		lists []string
	}{
		{0, []string{"a", "ab", "a|b", "a\nb", ".", "[^]", "a{9,9}", "ab|cd", "a|ab[]", "|a", "|ab|cd", "\na", "abc\nabd", "a(b|c)d", "a*b", "(ab)*c", ".{3,3}", "a.?", "a|a..", "a(....)?"}},
		{0, []string{"", "[]", "\n", "[]\n[]", "!.*", "a&b"}},                                                                // there is no token
		{0, []string{".*", ".+", "!", "!a&!", "a.*", "a.*b|a", "a[^]*b|a", "a.*\nb.*", ".*a", ".*a.*", "!(a|b)", "(.|..)*"}}, // no token is ever sure
		{1, []string{"a*", "a+", "a|ab", "ab?", "a\nab", "a{1,2}", "[a-z]+", "if\n[a-z]+", "a*\nb", "(a|b)+", "[^a]+", "a+|b", ".a?", ".[^a]*", "a?b?", "ab*", "|ab?", "if\n[a-z]+\n[ ]+\n.", "a(b.)*", "!&[^a]*", "a|a[^b]*b&!ax.*"}},
		{2, []string{"a|aaa", "(ab)+", "a|abc", "(ab)*", "a(bc)?", "a\nabc", "a{1,1}|a{3,3}", "1(.1)?", "a\nab\nabcd", "a|ab?[]|abc", "(aa)+", "a|a.b"}},
		{3, []string{"a|abcd", "(abc)+", "a(bcd)?", "(aaa)*", "a|a{4,4}"}},
		{4, []string{"a|ab?cde", "a(bcde)?"}},
		{9, []string{"a(b{8,8}c)?", "b(a{9,9})?", "a(b{0,8}c)?"}},
		{-1, []string{"a|ab*c", "a\nab*c", "a(b+c)?", "a(bb)*c|a", "a([b-c]*d)?", "a|ab*cd", "(ab*c)*|a", "/(\\*.*\\*/)?&!.*x.*", "a|b|[ab]*c"}},
	} {
		for _, list := range c.lists {
			if ahead, fault, place := munch.Ahead(list); ahead != c.want || fault != munch.OK || place != 0 {
				t.Errorf("P11: Ahead(%q) = %d %d %d, want %d 0 0", list, ahead, fault, place, c.want)
			}
		}
	}
}

// cutter cuts texts as P9 says, by the second reading of tags.
type cutter struct {
	asked
	signs string
	cut   map[string][]munch.Token
}

func newCutter(list, signs string) cutter {
	return cutter{asking(list), signs, map[string][]munch.Token{}}
}

func (c cutter) tokens(text string) []munch.Token {
	if out, met := c.cut[text]; met {
		return out
	}
	var out []munch.Token
	for from, to := 0, 0; from < len(text); from = to {
		for end := from + 1; end <= len(text); end++ {
			if c.tag(text[from:end]) >= 0 {
				to = end
			}
		}
		if to == from {
			break // stuck
		}
		out = append(out, munch.Token{Tag: c.tag(text[from:to]), From: from, To: to})
	}
	c.cut[text] = out
	return out
}

// sure answers how many tokens of a text are the same, whatever comes behind it of at most so many signs.
func (c cutter) sure(text string, most int) int {
	tokens := c.tokens(text)
	count := len(tokens)
	if most == 0 {
		return count
	}
	for i := range len(c.signs) {
		longer := text + c.signs[i:i+1]
		count = min(count, c.sure(longer, most-1), alikeAtFirst(tokens, c.tokens(longer)))
	}
	return count
}

func alikeAtFirst(a, b []munch.Token) int {
	i := 0
	for i < len(a) && i < len(b) && a[i] == b[i] {
		i++
	}
	return i
}

// ahead goes on from a text of which some tokens are told, byte by byte, and answers the most bytes behind the end of one when it is told.
func (c cutter) ahead(text string, told, length, most int) int {
	sure := c.sure(text, most)
	far := 0
	for _, token := range c.tokens(text)[told:max(told, sure)] {
		far = max(far, len(text)-token.To)
	}
	if len(text) < length {
		for i := range len(c.signs) {
			far = max(far, c.ahead(text+c.signs[i:i+1], max(told, sure), length, most))
		}
	}
	return far
}

// nearTags tells whether, from wherever a tag can be come to by one byte or more, one can be come to by so many.
func (s secondTable) nearTags(most int) bool {
	near := make([]bool, len(s)) // within the steps gone so far
	for range most {
		next := make([]bool, len(s))
		for at, state := range s {
			for _, e := range state.edges {
				next[at] = next[at] || near[e.state] || s[e.state].tag >= 0
			}
		}
		near = next
	}
	for at, state := range s {
		if len(state.edges) > 0 && !near[at] {
			return false
		}
	}
	return true
}

const (
	triedLength = 9
	triedMore   = 4
)

// compareAhead answers whether short texts were enough to tell. A number that there is at all is at most that of the states, so a greater one tells that there is none.
func compareAhead(t *testing.T, list, signs string) bool {
	t.Helper()
	ahead, fault, place := munch.Ahead(list)
	if fault != munch.OK || place != 0 || ahead < -1 {
		t.Fatalf("P11: Ahead(%q) = %d %d %d", list, ahead, fault, place)
	}
	states := tryCompile(t, list)
	if !states.nearTags(triedMore) {
		return false
	}
	tried := newCutter(list, signs).ahead("", 0, triedLength, triedMore)
	if ahead >= 0 && tried > ahead {
		t.Fatalf("P11: Ahead(%q) = %d, but a token was told %d bytes behind its end", list, ahead, tried)
	}
	if ahead >= 0 && len(states)+ahead <= triedLength && tried != ahead {
		t.Fatalf("P11: Ahead(%q) = %d, but texts of %d bytes say %d", list, ahead, triedLength, tried)
	}
	if ahead == -1 && 3*len(states) <= triedLength && tried <= len(states) {
		t.Fatalf("P11: Ahead(%q) = -1, but texts of %d bytes say %d", list, triedLength, tried)
	}
	return len(states)+max(ahead, 0) <= triedLength
}

func TestAheadMadeUpLists(t *testing.T) {
	r := rand.New(rand.NewSource(40))
	enough, answers := 0, map[int]int{}
	for range 200 {
		list := listOfTwoSigns(r)
		if compareAhead(t, list, "ab") {
			enough++
			ahead, _, _ := munch.Ahead(list)
			answers[ahead]++
		}
	}
	if enough < 100 || len(answers) < 5 || answers[-1] == 0 {
		t.Errorf("only %d of the lists could be told, with the answers %v", enough, answers)
	}
}

// listOfTwoSigns makes up a list that tells only a from all other bytes, seldom one whose tokens are sure soon.
func listOfTwoSigns(r *rand.Rand) string {
	change := strings.NewReplacer("b", "[^a]", "{", "{2,3}")
	for {
		list := madeText(r, "ab", 2) + madeText(r, "|\n", 1) + madeText(r, "aaaabbbb((||))**+??\n&!.{", 9)
		list = change.Replace(list)
		if fault, _ := secondCheck(list); fault != munch.OK || len(list) < 3 {
			continue
		}
		if ahead, _, _ := munch.Ahead(list); ahead < 0 || ahead > 1 || r.Intn(200) == 0 {
			return list
		}
	}
}

// Where there is no number, tokens are told further and further behind their ends.
func TestAheadWithoutEnd(t *testing.T) {
	for _, c := range []struct{ list, head, loop, tail string }{
		{"a|ab*c", "a", "b", "a"}, {"a\nab*c", "a", "b", "x"}, {"a(bb)*c|a", "a", "bb", "x"}, {"(ab*c)*|a", "acacab", "b", "x"}, {"a|b|[ab]*c", "a", "b", "x"},
	} {
		if ahead, _, _ := munch.Ahead(c.list); ahead != -1 {
			t.Errorf("P11: Ahead(%q) = %d, want -1", c.list, ahead)
		}
		cut := newCutter(c.list, "abcx")
		last := 0
		for count := range 4 {
			text := c.head + rep(c.loop, count+1) + c.tail
			far, told := 0, 0
			for i := range len(text) + 1 {
				sure := cut.sure(text[:i], 3)
				for _, token := range cut.tokens(text[:i])[told:max(told, sure)] {
					far = max(far, i-token.To)
				}
				told = max(told, sure)
			}
			if far <= last {
				t.Errorf("P11: by %q a token of %q is told %d bytes behind its end, want more than %d", c.list, text, far, last)
			}
			last = far
		}
	}
}
