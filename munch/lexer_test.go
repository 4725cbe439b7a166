package munch_test

import (
	"fmt"
	"strings"
	"testing"

	"munch/munch"
)

// mustNew answers the lexer of a good list.
func mustNew(t *testing.T, list string) *munch.Lexer {
	t.Helper()
	x, fault, place := munch.New(list)
	if x == nil || fault != munch.OK || place != 0 {
		t.Fatalf("P10: New(%q) = %v %d %d, want a lexer, 0 and 0", list, x, fault, place)
	}
	return x
}

func TestNewGivesTheErrorOfCheck(t *testing.T) {
	for _, list := range badLists() {
		fault, place := munch.Check(list)
		if x, got, gotPlace := munch.New(list); x != nil || got != fault || gotPlace != place || fault == munch.OK {
			t.Errorf("P10: New(%.90q) = %v %d %d, want nil %d %d", list, x, got, gotPlace, fault, place)
		}
	}
	for _, c := range []struct {
		list  string
		fault munch.Errno
		place int
	}{{"a!", munch.ErrText, 1}, {"ab(", munch.ErrText, 3}, {rep("a", 81), munch.ErrLong, 0}, {rep("a", 11), munch.ErrWeight, 0}, {"a" + rep("(", 9) + rep(")", 9), munch.ErrNest, 9}} {
		if x, fault, place := munch.New(c.list); x != nil || fault != c.fault || place != c.place {
			t.Errorf("P10: New(%q) = %v %d %d, want nil %d %d", c.list, x, fault, place, c.fault, c.place)
		}
	}
	for _, list := range []string{"", "a", "[]", "\n\n\n\n", rep("a", 10), rep("|", 80), rep("(", 8) + rep(")", 8)} {
		mustNew(t, list)
	}
}

// told writes down what Feed or Close answers: the tokens, and behind ! the place where the text is stuck.
func told(tokens []munch.Token, fault munch.Errno, place int) string {
	var out []string
	for _, token := range tokens {
		out = append(out, fmt.Sprintf("%d:%d-%d", token.Tag, token.From, token.To))
	}
	switch {
	case fault == munch.ErrStuck:
		out = append(out, fmt.Sprintf("!%d", place))
	case fault != munch.OK || place != 0:
		out = append(out, fmt.Sprintf("fault %d %d", fault, place))
	}
	return strings.Join(out, " ")
}

// The tokens of a text that comes in one piece, with those that Close tells.
func TestTokensOfText(t *testing.T) {
	for _, c := range []struct{ list, text, want string }{
		{"if\n[a-z]+\n +\n[0-9]+", "if iffy  12", "0:0-2 2:2-3 1:3-7 2:7-9 3:9-11"},
		{"if\n[a-z]+\n +\n[0-9]+", "i f", "1:0-1 2:1-2 1:2-3"},
		{"if\n[a-z]+\n +\n[0-9]+", "if?if", "0:0-2 !2"},
		{"a*", "", ""}, {"a*", "aaa", "0:0-3"}, {"a*", "aab", "0:0-2 !2"}, {"a*", "baa", "!0"},
		{"a*\nb*", "aabba", "0:0-2 1:2-4 0:4-5"}, {"b*\na*", "aabba", "1:0-2 0:2-4 1:4-5"},
		{"a?", "aaa", "0:0-1 0:1-2 0:2-3"}, {"a{0,2}", "aaaaa", "0:0-2 0:2-4 0:4-5"}, {"a{2,3}", "aaaa", "0:0-3 !3"},
		{"|a", "aa", "0:0-1 0:1-2"}, {"\na", "aa", "1:0-1 1:1-2"}, {"\na*", "aa", "1:0-2"}, {"\n|a", "b", "!0"},
		{"a|ab|abc", "abcaba", "0:0-3 0:3-5 0:5-6"}, {"abc\nab\na", "abcaba", "0:0-3 1:3-5 2:5-6"},
		{"a\naba\nb", "abab", "1:0-3 2:3-4"}, {"a\naba\nb", "abb", "0:0-1 2:1-2 2:2-3"}, {"(ab)+\na\nb", "ababa", "0:0-4 1:4-5"},
		{"a\n[ab]", "ab", "0:0-1 1:1-2"}, {"[ab]\na", "ab", "0:0-1 0:1-2"}, {"a&b\na", "a", "1:0-1"}, {"a&!a\n[]\n[]\n[]\na", "aa", "4:0-1 4:1-2"},
		{"ab", "abab", "0:0-2 0:2-4"}, {"ab", "aba", "0:0-2 !2"}, {"ab", "abb", "0:0-2 !2"},
		{"!a", "a", "!0"}, {"!a", "b", "0:0-1"}, {"!a", "aa", "0:0-2"}, {"!a", "ba", "0:0-2"},
		{"a|a.*b", "aaab", "0:0-4"}, {"a|a.*b", "aaaba", "0:0-4 0:4-5"}, {"a|a.*b", "aac", "0:0-1 0:1-2 !2"},
		{"[^a]+\na", "\x00\xff\na\x80", "0:0-3 1:3-4 0:4-5"}, {".", "\x00\n\xff", "0:0-1 0:1-2 0:2-3"}, {"\xff\x00\n\\\xff", "\xff\xff\x00", "1:0-1 0:1-3"},
		// Every text is a word; none is; the empty one alone is.
		{".*", "", ""}, {".*", "a", "0:0-1"}, {".*", "ab\x00\n", "0:0-4"}, {"!", "abc", "0:0-3"}, {"![]", "abc", "0:0-3"}, {"[]\n.*", "abc", "1:0-3"},
		{"[]", "", ""}, {"[]", "a", "!0"}, {"!.*", "abc", "!0"}, {"a&b", "a", "!0"}, {"a[]", "a", "!0"},
		{"", "", ""}, {"", "a", "!0"}, {"()*", "ab", "!0"}, {"\n\n", "\n", "!0"}, {"!.+", "a", "!0"}, {rep("(", 8) + rep("){9,9}", 8), "a", "!0"}, {rep("(", 8) + "a?" + rep(")*", 8), "aab", "0:0-2 !2"},
	} {
		x := mustNew(t, c.list)
		tokens, fault, place := x.Feed(c.text)
		if fault == munch.OK {
			var more []munch.Token
			more, fault, place = x.Close()
			tokens = append(tokens, more...)
		}
		if got := told(tokens, fault, place); got != c.want {
			t.Errorf("P9: the tokens of %q by %q: %q, want %q", c.text, c.list, got, c.want)
		}
	}
}

// What each call tells. A piece is fed, but for "$", which stands for Close.
func TestFeedAndClose(t *testing.T) {
	for _, c := range []struct {
		list  string
		steps []string // a piece, and what is told at it, by turns
	}{
		{"a", []string{"", "", "a", "0:0-1", "aa", "0:1-2 0:2-3", "", "", "$", "", "$", "", "a", "0:0-1", "b", "!1"}},
		{"[a-z]+\n ", []string{"ab", "", "c", "", " ", "0:0-3 1:3-4", "", "", "d e", "0:4-5 1:5-6", "$", "0:6-7", "f", "", "$", "0:0-1"}},
		{"a*", []string{"$", "", "a", "", "", "", "a", "", "$", "0:0-2", "$", "", "aa", "", "b", "0:0-2 !2"}},
		{"a|abc", []string{"a", "", "b", "", "c", "0:0-3", "a", "", "a", "0:3-4", "b", "", "c", "0:4-7", "$", ""}},
		{"a|abc\nb", []string{"ab", "", "b", "0:0-1 1:1-2 1:2-3", "ab", "", "$", "0:3-4 1:4-5", "ab", "", "$", "0:0-1 1:1-2"}},
		{"a.?", []string{"a", "", "x", "0:0-2", "a", "", "$", "0:2-3"}},
		{".{3,3}", []string{"ab", "", "cd", "0:0-3", "e", "", "f", "0:3-6", "$", ""}},
		{".*b\na", []string{"aab", "", "aa", "", "$", "0:0-3 1:3-4 1:4-5", "a", "", "b", "", "$", "0:0-2"}},
		{"a|a*b", []string{"aaa", "", "a", "", "b", "0:0-5", "aa", "", "c", "0:5-6 0:6-7 !7"}},
		// A token that no longer one can follow is sure at once, even where other patterns go on.
		{"a|b[]", []string{"a", "0:0-1"}}, {"a|ac[]", []string{"a", "0:0-1"}}, {"a.\na&!.", []string{"a", "", "b", "0:0-2"}}, {"a\nbc", []string{"ab", "0:0-1", "c", "1:1-3"}},
		{"a*&!aaa.*", []string{"a", "", "a", "0:0-2", "aaa", "0:2-4", "$", "0:4-5"}}, {"a|a[^]", []string{"a", "", "a", "0:0-2"}},
		// Stuck as soon as that is sure, and no sooner.
		{"ab", []string{"a", "", "c", "!0"}}, {"abc", []string{"ab", "", "ab", "!0"}}, {"a\nb*c", []string{"ab", "0:0-1", "b", "", "a", "!1", "c", "!1"}},
		{"a\nab*c", []string{"abb", "", "b", "", "d", "0:0-1 !1", "", "!1"}}, {"a\nbc", []string{"b", "", "$", "!0"}}, {"a\nbc", []string{"aab", "0:0-1 0:1-2", "$", "!2"}},
		{"abc|a", []string{"ab", "", "$", "0:0-1 !1", "$", "!1"}}, {"abc|a", []string{"abd", "0:0-1 !1"}}, {"a.*bc", []string{"axxb", "", "$", "!0"}},
		{"!a", []string{"a", "", "$", "!0"}}, {"!a", []string{"a", "", "a", "", "$", "0:0-2"}},
		// From then on no token, and that place, at each call.
		{"a", []string{"aab", "0:0-1 0:1-2 !2", "", "!2", "a", "!2", "$", "!2", "$", "!2", "b", "!2", "aaaa", "!2", "$", "!2", "a", "!2"}},
		{"ab", []string{"aba", "0:0-2", "$", "!2", "b", "!2", "ab", "!2", "", "!2", "$", "!2"}},
		{"ab|a|c", []string{"ca", "0:0-1", "$", "0:1-2", "x", "!0", "c", "!0", "$", "!0", "c", "!0"}},
		// After a Close that is OK it counts from 0 again, and knows nothing of what was.
		{"ab|a|c", []string{"aca", "0:0-1 0:1-2", "$", "0:2-3", "b", "!0"}},
		{"aa", []string{"aa", "0:0-2", "$", "", "a", "", "a", "0:0-2", "aaa", "0:2-4", "a", "0:4-6", "$", "", "", "", "$", "", "a", "", "$", "!0"}},
		// No token is empty.
		{"", []string{"", "", "$", "", "", "", "a", "!0", "$", "!0"}}, {"[]", []string{"", "", "$", "", "a", "!0", "", "!0"}}, {"a?", []string{"", "", "$", "", "a", "0:0-1", "", "", "$", "", "b", "!0"}},
		{".*", []string{"", "", "$", "", "a", "", "bc", "", "", "", "$", "0:0-3", "$", "", "d", "", "$", "0:0-1"}}, {"[]\n\n.+", []string{"$", "", "ab", "", "$", "2:0-2"}},
	} {
		x := mustNew(t, c.list)
		for i := 0; i < len(c.steps); i += 2 {
			got := ""
			if c.steps[i] == "$" {
				got = told(x.Close())
			} else {
				got = told(x.Feed(c.steps[i]))
			}
			if got != c.steps[i+1] {
				t.Errorf("P10: by %q, call %d of %q tells %q, want %q", c.list, i/2, c.steps, got, c.steps[i+1])
			}
		}
	}
}

// A long text tells the same as many short ones, and takes no more time than its length asks for, even if each token is sure only at the text's end.
func TestLongTexts(t *testing.T) {
	const long = 1 << 17
	for _, c := range []struct {
		list, text string
		stuck      int
	}{
		{"a", rep("a", long), -1}, {"a|a*b", rep("a", long), -1}, {"a|a*b", rep("a", long) + "c", long}, {".*b\na", rep("a", long), -1}, {"a|(aa)*b", rep("a", long) + "c", long},
		{"a|(a{8,8})*b", rep("a", long) + "c", long}, {"a\n(a{3,3})*b\n(a{4,4})*c", rep("a", long) + "ad", long + 1}, {"a|([ab]{7,7}a)*c", rep("a", long) + "bbbbbbbb", long}, {"(.{7,7})*ab\na", rep("a", long), -1}, {"[ac]|[ab]*a[ab]{6,6}c", rep("a", long), -1},
	} {
		for _, length := range []int{len(c.text), 1, 1000} {
			x := mustNew(t, c.list)
			count, fault, place := 0, munch.OK, 0
			for text := c.text; text != ""; text = text[min(length, len(text)):] {
				var tokens []munch.Token
				tokens, fault, place = x.Feed(text[:min(length, len(text))])
				count += tryRow(t, c.list, tokens, count)
			}
			if fault == munch.OK {
				var tokens []munch.Token
				tokens, fault, place = x.Close()
				count += tryRow(t, c.list, tokens, count)
			}
			if c.stuck < 0 && (fault != munch.OK || place != 0 || count != len(c.text)) || c.stuck >= 0 && (fault != munch.ErrStuck || place != c.stuck || count != place) {
				t.Errorf("P9: by %q a long text has %d tokens, %d %d; want one for each byte, stuck at %d", c.list, count, fault, place, c.stuck)
			}
		}
	}
}

// tryRow asks that tokens are of one byte each and follow each other from a place on, and answers how many they are.
func tryRow(t *testing.T, list string, tokens []munch.Token, from int) int {
	t.Helper()
	for i, token := range tokens {
		if (token != munch.Token{Tag: token.Tag, From: from + i, To: from + i + 1}) {
			t.Fatalf("P9: by %q a long text of single tokens has %v at %d", list, token, from+i)
		}
	}
	return len(tokens)
}
