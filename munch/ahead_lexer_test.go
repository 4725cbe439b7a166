package munch_test

import (
	"math/rand"
	"testing"

	"munch/munch"
)

// farthest feeds a text byte by byte, and answers the most bytes that had come behind the end of a token when Feed told it.
func farthest(x *munch.Lexer, text string) int {
	far := 0
	for i := range len(text) {
		tokens, fault, _ := x.Feed(text[i : i+1])
		for _, token := range tokens {
			far = max(far, i+1-token.To)
		}
		if fault != munch.OK {
			break
		}
	}
	return far
}

// farthestOfShort goes through all texts of so many signs. A lexer that is not stuck is used again.
func farthestOfShort(t *testing.T, list, signs string, length int) int {
	t.Helper()
	far, x := 0, mustNew(t, list)
	shortTexts(signs, length, func(text string) bool {
		if len(text) == length {
			far = max(far, farthest(x, text))
			if _, fault, _ := x.Close(); fault != munch.OK {
				x = mustNew(t, list)
			}
		}
		return true
	})
	return far
}

func mustAhead(t *testing.T, list string) int {
	t.Helper()
	ahead, fault, place := munch.Ahead(list)
	if fault != munch.OK || place != 0 {
		t.Fatalf("P11: Ahead(%q) = %d %d %d", list, ahead, fault, place)
	}
	return ahead
}

// The document's number is the greatest one: no token is told later, and one is told as late.
func TestTokensAreToldAsAheadSays(t *testing.T) {
	for _, list := range []string{
		"a", "ab", "a\nb", "a{3,3}", "", "[]", ".*", "!", "a.*", "a*", "a|ab", "a+\nb", "a?b?", "a|aaa", "(ab)+", "a\nbaa\nb", "a|abab", "(aab)+", "a(bab)?", "a|ab?aba", "a|b(ab)*a|b", "a|b|abb", "(aa)+", "a|a{4,4}\nb", "a.?", "a|a.a", "|ab?", "a(aaa)?",
	} {
		ahead := mustAhead(t, list)
		if far := farthestOfShort(t, list, "ab", 9); ahead >= 0 && far != ahead {
			t.Errorf("P11: Ahead(%q) = %d, but Feed tells a token %d bytes behind its end", list, ahead, far)
		} else if ahead < 0 && far < 4 {
			t.Errorf("P11: Ahead(%q) = %d, but Feed tells every token at most %d bytes behind its end", list, ahead, far)
		}
	}
	for _, c := range []struct {
		list, text string
		far        int
	}{{"a(b{8,8}c)?", "abbbbbbbbx", 9}, {"b(a{9,9})?", "baaaaaaaab", 9}, {"a(b{0,8}c)?", "abbbbbbbba", 9}, {"if\n[a-z]+\n[ ]+\n.", "if iff ab?", 1}, {"a(bcde)?", "abcda", 4}} {
		if ahead, far := mustAhead(t, c.list), farthest(mustNew(t, c.list), c.text); ahead != c.far || far != c.far {
			t.Errorf("P11: by %q a token of %q is told %d bytes behind its end, Ahead says %d, want %d", c.list, c.text, far, ahead, c.far)
		}
	}
}

func TestTokensAreToldInTimeMadeUpLists(t *testing.T) {
	r := rand.New(rand.NewSource(70))
	met := map[int]int{}
	for i := range 1500 {
		list := madeGoodList(r)
		if i%3 == 0 {
			list = listOfTwoSigns(r)
		}
		ahead := mustAhead(t, list)
		states, _, _ := secondReadAnyLength(tableOf(list))
		x := mustNew(t, list)
		for range 8 {
			text := hopefulText(r, states, r.Intn(40))
			far := farthest(x, text)
			if ahead >= 0 && far > ahead {
				t.Fatalf("P11: Ahead(%q) = %d, but in %q Feed tells a token %d bytes behind its end", list, ahead, text, far)
			}
			met[far]++
			if _, fault, _ := x.Close(); fault != munch.OK {
				x = mustNew(t, list)
			}
		}
	}
	if len(met) < 5 {
		t.Errorf("tokens were told only so many bytes behind their ends: %v", met)
	}
}

// Where there is no number, tokens are told as late as one likes.
func TestTokensAreToldLate(t *testing.T) {
	for _, c := range []struct{ list, head, loop, tail string }{
		{"a|ab*c", "a", "b", "a"}, {"a\nab*c", "a", "b", "x"}, {"a(bb)*c|a", "a", "bb", "x"}, {"(ab*c)*|a", "acacab", "b", "x"}, {"a|b|[ab]*c", "a", "b", "x"},
	} {
		if ahead := mustAhead(t, c.list); ahead != -1 {
			t.Errorf("P11: Ahead(%q) = %d, want -1", c.list, ahead)
		}
		if far := farthest(mustNew(t, c.list), c.head+rep(c.loop, 5000)+c.tail); far < 5000 {
			t.Errorf("P11: by %q a token is told %d bytes behind its end, want 5000 or more", c.list, far)
		}
	}
}
