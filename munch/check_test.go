package munch_test

import (
	"math/rand"
	"strings"
	"testing"

	"munch/munch"
)

type checkCase struct {
	list  string
	fault munch.Errno
	place int
}

func tryCheck(t *testing.T, cases []checkCase) {
	t.Helper()
	for _, c := range cases {
		if fault, place := munch.Check(c.list); fault != c.fault || place != c.place {
			t.Errorf("P3: Check(%q) = %d %d, want %d %d", c.list, fault, place, c.fault, c.place)
		}
	}
}

func rep(text string, times int) string { return strings.Repeat(text, times) }

func TestErrnoNumbers(t *testing.T) {
	for want, got := range []munch.Errno{munch.OK, munch.ErrLong, munch.ErrText, munch.ErrNest, munch.ErrWeight, munch.ErrTable, munch.ErrStuck} {
		if int(got) != want {
			t.Errorf("Errno %d stands where %d should", got, want)
		}
	}
}

func TestCheckGoodLists(t *testing.T) {
	for _, list := range []string{
		"", "a", "abc", "a|b", "|", "||a|", "()", "(|)", "()*", "(){0,9}", "((a)|(b))*",
		"&", "a&", "&a", "!&!", "!", "!a", "!a|b&!c", "!|", "a&!", "!a*&b+&c?",
		"\n", "a\n", "\na", "a\n!b\nc&d", "!\n!\n!\n!\n!", "\n\n\n\n",
		".", ".*", ".+", ".?", ".{0,9}", "a{0,1}", "a{1,1}", "a{9,9}", "a{1,9}", "a{2,3}b",
		"[]", "[^]", "[]*", "[^]{1,2}", "[a]", "[^a]", "[abc]", "[a-c]", "[a-a]", "[a-cx-z]", "[a-cd]", "[ac-d]", "[^a-c]",
		"[|&!*+?{}().]", "[a-}]", "[,-.]", "[!-.]", "[\x00-\xff]", "[\xff-\xff]", "[\xff]", "[ab-cd]",
		"[\\]]", "[\\[]", "[\\^]", "[\\-]", "[\\\\]", "[\\a]", "[\\\n]", "[^\\^]", "[\\a-\\c]", "[a-\\c]", "[\\a-c]", "[\\\n-a]", "[\x00-\\\n]", "[\\--a]", "[+-\\-]", "[A-\\\\b]", "[A-\\]b]",
		"\\a", "\\\\", "\\.", "\\*", "\\|", "\\&", "\\!", "\\(", "\\)", "\\[", "\\]", "\\{", "\\}", "\\+", "\\?", "\\\x00", "\\\xff", "\\a*",
		"^", "-", ",", "^a-z,$", "\x00", "\xff", "\x80*", "\r", "\t ", "9", "1,2", "a:b;c<d=e>", "\"'/#%@_`~",
	} {
		tryCheck(t, []checkCase{{list, munch.OK, 0}})
	}
}

func TestCheckFaultsInText(t *testing.T) {
	tryCheck(t, []checkCase{
		// signs where no atom stands ahead
		{"*", munch.ErrText, 0}, {"+", munch.ErrText, 0}, {"?", munch.ErrText, 0}, {"{1,2}", munch.ErrText, 0},
		{"a|*", munch.ErrText, 2}, {"a&*", munch.ErrText, 2}, {"!*", munch.ErrText, 1}, {"a\n+", munch.ErrText, 2}, {"(*)", munch.ErrText, 1}, {"(?a)", munch.ErrText, 1}, {"a({1,2})", munch.ErrText, 2},
		{"a**", munch.ErrText, 2}, {"a*+", munch.ErrText, 2}, {"a+?", munch.ErrText, 2}, {"a??", munch.ErrText, 2}, {"a*{1,2}", munch.ErrText, 2}, {"a{1,2}*", munch.ErrText, 6}, {"a{1,2}{1,2}", munch.ErrText, 6},
		{"(a)**", munch.ErrText, 4}, {"[a]+*", munch.ErrText, 4}, {"\\a?+", munch.ErrText, 3},
		// signs that no atom is
		{"]", munch.ErrText, 0}, {"}", munch.ErrText, 0}, {"a]", munch.ErrText, 1}, {"a}", munch.ErrText, 1}, {"a{1,2}}", munch.ErrText, 6}, {"[a]]", munch.ErrText, 3}, {"(])", munch.ErrText, 1},
		// within {m,n}
		{"a{x", munch.ErrText, 2}, {"a{,2}", munch.ErrText, 2}, {"a{}", munch.ErrText, 2}, {"a{-1,2}", munch.ErrText, 2}, {"a{ 1,2}", munch.ErrText, 2}, {"a{/,1}", munch.ErrText, 2}, {"a{:,1}", munch.ErrText, 2},
		{"a{1}", munch.ErrText, 3}, {"a{12,3}", munch.ErrText, 3}, {"a{1-2}", munch.ErrText, 3}, {"a{1\n", munch.ErrText, 3},
		{"a{1,}", munch.ErrText, 4}, {"a{1,x}", munch.ErrText, 4}, {"a{0,0}", munch.ErrText, 4}, {"a{1,0}", munch.ErrText, 4}, {"a{2,1}", munch.ErrText, 4}, {"a{9,8}", munch.ErrText, 4}, {"a{3,:}", munch.ErrText, 4}, {"a{0,/}", munch.ErrText, 4},
		{"a{1,23}", munch.ErrText, 5}, {"a{1,2,", munch.ErrText, 5}, {"a{1,2)", munch.ErrText, 5},
		// in spans
		{"[^^]", munch.ErrText, 2}, {"[a^]", munch.ErrText, 2}, {"[[]", munch.ErrText, 1}, {"[a[]", munch.ErrText, 2}, {"[\n]", munch.ErrText, 1}, {"[a\n]", munch.ErrText, 2}, {"[-]", munch.ErrText, 1}, {"[-a]", munch.ErrText, 1}, {"[^-a]", munch.ErrText, 2},
		{"[a-]", munch.ErrText, 3}, {"[a--]", munch.ErrText, 3}, {"[a-[]", munch.ErrText, 3}, {"[+-^]", munch.ErrText, 3}, {"[\x00-\n]", munch.ErrText, 3}, {"[+--]", munch.ErrText, 3}, {"[a-c-e]", munch.ErrText, 4}, {"[a-c-]", munch.ErrText, 4}, {"[a-\\c-e]", munch.ErrText, 5},
		{"[b-a]", munch.ErrText, 3}, {"[\\b-a]", munch.ErrText, 4}, {"[b-\\a]", munch.ErrText, 4}, {"[\\b-\\a]", munch.ErrText, 5}, {"[\xff-\xfe]", munch.ErrText, 3}, {"[b-\\\n]", munch.ErrText, 4}, {"[\x01-\x00]", munch.ErrText, 3}, {"[]-a]", munch.ErrText, 4}, {"[a-b]]", munch.ErrText, 5},
		{"[xb-a]", munch.ErrText, 4}, {"[a-bd-c]", munch.ErrText, 6}, {"[\\]-[]", munch.ErrText, 4},
		// behind \
		{"\\\n", munch.ErrText, 1}, {"a\\\nb", munch.ErrText, 2}, {"(\\\n)", munch.ErrText, 2}, {"\\(\\\n", munch.ErrText, 3},
		// brackets
		{")", munch.ErrText, 0}, {"a)", munch.ErrText, 1}, {"(a))", munch.ErrText, 3}, {"(a]", munch.ErrText, 2}, {"(a}", munch.ErrText, 2}, {"a|)", munch.ErrText, 2}, {"(a)b)", munch.ErrText, 4}, {"\\()", munch.ErrText, 2}, {"[(])", munch.ErrText, 3},
		// ! and &
		{"a!", munch.ErrText, 1}, {"!!", munch.ErrText, 1}, {"!a!", munch.ErrText, 2}, {"a|!b", munch.ErrText, 2}, {"!a|!b", munch.ErrText, 3}, {"(!a)", munch.ErrText, 1}, {"(a!)", munch.ErrText, 2}, {"(a|!b)", munch.ErrText, 3},
		{"(&)", munch.ErrText, 1}, {"(a&b)", munch.ErrText, 2}, {"a&&!!", munch.ErrText, 4}, {"a*!", munch.ErrText, 2}, {"((a)&b)", munch.ErrText, 4},
		// newline, too many patterns
		{"(\n)", munch.ErrText, 1}, {"(a\nb)", munch.ErrText, 2}, {"a\n!!", munch.ErrText, 3}, {"\n\n\n\n\n", munch.ErrText, 4}, {"a\nb\nc\nd\ne\nf", munch.ErrText, 9}, {"a\nb\nc\nd\ne\n", munch.ErrText, 9}, {"\n\n\n\n\n*", munch.ErrText, 4},
		// the first fault counts
		{"a**(", munch.ErrText, 2}, {"(a**", munch.ErrText, 3}, {"[b-a", munch.ErrText, 3}, {"\\\n\\", munch.ErrText, 1},
	})
}

func TestCheckTextsThatLackBytes(t *testing.T) {
	for _, list := range []string{
		"(", "(a", "(a|", "((a)", "a(", "(()", "(a*", "a\n(b", "!(", "a&(",
		"[", "[^", "[a", "[a-", "[a-c", "[\\", "[a-\\", "[^a-b", "[]a[", "[b-\\", "[\\\n", "[\xff-", "[\xff-\\", "([a]", "([a",
		"\\", "a\\", "(\\", "(\\)", "[\\]", "[A-\\]", "[]\\",
		"a{", "a{0", "a{9", "a{1,", "a{9,", "a{0,", "a{1,2", "(a){1,9", "a\n\n\n\nb{",
		rep("(", 80), rep("a", 79) + "\\", rep("|", 79) + "[",
	} {
		tryCheck(t, []checkCase{{list, munch.ErrText, len(list)}})
	}
}

func TestCheckLimits(t *testing.T) {
	tryCheck(t, []checkCase{
		// length
		{rep("|", 80), munch.OK, 0}, {rep("|", 81), munch.ErrLong, 0}, {rep("|", 82), munch.ErrLong, 0}, {"[" + rep("a", 78) + "]", munch.OK, 0}, {"[" + rep("a", 79) + "]", munch.ErrLong, 0},
		// patterns
		{"a\nb\nc\nd\ne", munch.OK, 0}, {"a\nb\nc\nd\ne\nf", munch.ErrText, 9}, {"[\\\n\\\n\\\n\\\n\\\n\\\n]", munch.OK, 0},
		// brackets
		{rep("(", 8) + rep(")", 8), munch.OK, 0}, {rep("(", 9) + rep(")", 9), munch.ErrNest, 8}, {rep("(", 10) + rep(")", 10), munch.ErrNest, 8}, {rep("(", 40) + rep(")", 40), munch.ErrNest, 8},
		{rep("()", 40), munch.OK, 0}, {rep("(", 7) + "()()" + rep(")", 7), munch.OK, 0}, {rep("(", 8) + "()()" + rep(")", 8), munch.ErrNest, 8}, {rep("(", 8) + "a()" + rep(")", 8), munch.ErrNest, 9},
		{rep("(", 8) + rep(")", 8) + rep("(", 9) + rep(")", 9), munch.ErrNest, 24}, {rep("(", 8) + rep(")", 8) + "\n" + rep("(", 8) + rep(")", 8), munch.OK, 0}, {"a\n" + rep("(", 9) + rep(")", 9), munch.ErrNest, 10},
		{rep("(", 8) + "\\(" + rep(")", 8), munch.OK, 0}, {rep("(", 8) + "[(]" + rep(")", 8), munch.OK, 0}, {rep("(", 8) + "[]" + rep(")*", 8), munch.OK, 0},
		// weight
		{rep("a", 10), munch.OK, 0}, {rep("a", 11), munch.ErrWeight, 0}, {rep(".", 10), munch.OK, 0}, {rep(".", 11), munch.ErrWeight, 0}, {rep("[]", 10), munch.OK, 0}, {rep("[]", 11), munch.ErrWeight, 0}, {rep("[^a-z]", 10), munch.OK, 0}, {rep("[^a-z]", 11), munch.ErrWeight, 0}, {rep("\\(", 10), munch.OK, 0}, {rep("\\(", 11), munch.ErrWeight, 0},
		{rep("a*", 10), munch.OK, 0}, {rep("a*", 11), munch.ErrWeight, 0}, {rep("a+", 10), munch.OK, 0}, {rep("a+", 11), munch.ErrWeight, 0}, {rep("a?", 10), munch.OK, 0}, {rep("a?", 11), munch.ErrWeight, 0},
		{rep("a|", 10), munch.OK, 0}, {rep("a|", 11), munch.ErrWeight, 0}, {rep("a&", 10), munch.OK, 0}, {rep("a&", 11), munch.ErrWeight, 0}, {rep("!a&", 10), munch.OK, 0}, {rep("!a&", 11), munch.ErrWeight, 0}, {rep("(a)", 10), munch.OK, 0}, {rep("(a)", 11), munch.ErrWeight, 0},
		{"aa\naa\naa\naa\naa", munch.OK, 0}, {"aa\naa\naa\naa\naaa", munch.ErrWeight, 0}, {"aaa\naa\naa\naa\naa", munch.ErrWeight, 0},
		{"a{0,9}b", munch.OK, 0}, {"a{0,9}bc", munch.ErrWeight, 0}, {"a{9,9}b", munch.OK, 0}, {"(ab){1,5}", munch.OK, 0}, {"(ab){1,6}", munch.ErrWeight, 0}, {"(a|b|c){0,3}d", munch.OK, 0}, {"(a|b|c){0,3}de", munch.ErrWeight, 0},
		{"((a{1,2}){1,2}){1,2}bc", munch.OK, 0}, {"((a{1,2}){1,2}){1,2}bcd", munch.ErrWeight, 0}, {"(a{1,3}){1,3}b", munch.OK, 0}, {"(a{1,3}b){1,3}", munch.ErrWeight, 0}, {"(a*){1,5}(b+){1,5}", munch.OK, 0}, {"(a*){1,5}(b+){1,5}c", munch.ErrWeight, 0},
		{rep("(", 8) + rep("){9,9}", 8), munch.OK, 0}, {rep("(", 8) + "a" + rep("){9,9}", 8), munch.ErrWeight, 0}, {rep("(", 8) + rep("a", 16) + rep("){9,9}", 8), munch.ErrWeight, 0}, {"(){1,9}" + rep("a", 10), munch.OK, 0}, {"[abcdefghijklmnopqrstuvwxyz]", munch.OK, 0},
	})
}

func TestCheckAnswersTheErrorNamedFirst(t *testing.T) {
	tryCheck(t, []checkCase{
		{rep("*", 81), munch.ErrLong, 0}, {rep("(", 81), munch.ErrLong, 0}, {rep("a", 81), munch.ErrLong, 0}, {rep("(", 41) + rep(")", 41), munch.ErrLong, 0},
		{rep("(", 9) + rep(")", 8), munch.ErrText, 17}, {rep("(", 9) + rep(")", 10), munch.ErrText, 18}, {rep("(", 9) + rep(")", 9) + "**", munch.ErrText, 19}, {rep("a", 20) + "!", munch.ErrText, 20}, {rep("a", 79) + ")", munch.ErrText, 79},
		{rep("(", 9) + rep("a", 11) + rep(")", 9), munch.ErrNest, 8}, {rep("a", 11) + rep("(", 9) + rep(")", 9), munch.ErrNest, 19}, {rep("(", 9) + "a" + rep("){9,9}", 9), munch.ErrNest, 8}, {rep("(", 11) + "a" + rep("){9,9}", 11), munch.ErrNest, 8},
	})
}

func compareCheck(t *testing.T, list string) {
	t.Helper()
	fault, place := munch.Check(list)
	wantFault, wantPlace := secondCheck(list)
	if fault != wantFault || place != wantPlace {
		t.Fatalf("P3: Check(%q) = %d %d, want %d %d", list, fault, place, wantFault, wantPlace)
	}
}

// Every short text of the signs that mean something.
func TestCheckAllShortTexts(t *testing.T) {
	const signs = "ab-]^[\\{,01}(|)&!*\n."
	lists := []string{""}
	for range 4 {
		var longer []string
		for _, list := range lists {
			for i := range len(signs) {
				longer = append(longer, list+signs[i:i+1])
				compareCheck(t, longer[len(longer)-1])
			}
		}
		lists = longer
	}
}

// Every byte at every place of some lists, put in or put in its stead.
func TestCheckAnyByteAnywhere(t *testing.T) {
	for _, list := range []string{"!(a|b)*&[^a-c\\]]{1,2}\n\\a+", "[b-\\d]{2,3}|(.?)", "a\nb\nc\nd\n!e&(f)", "a{0,9}", "((((((((a))))))))"} {
		for at := range len(list) {
			for b := range 256 {
				compareCheck(t, list[:at]+string([]byte{byte(b)})+list[at:])
				compareCheck(t, list[:at]+string([]byte{byte(b)})+list[at+1:])
			}
			compareCheck(t, list[:at])
		}
	}
}

func TestCheckMadeUpTexts(t *testing.T) {
	r := rand.New(rand.NewSource(3))
	for range 20000 {
		list := madeList(r)
		compareCheck(t, list)
		at := r.Intn(len(list) + 1)
		compareCheck(t, list[:at]+madeText(r, "ab-]^[\\{,01}(|)&!*+?\n.", 2)+list[at:])
		compareCheck(t, madeText(r, "aa-]^[\\{,19}((|))&!*\n.", 90))
	}
}
