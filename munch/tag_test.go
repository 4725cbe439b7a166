package munch_test

import (
	"math/rand"
	"testing"

	"munch/munch"
)

// tryTag asks for each of the words whether its tag is the wanted one.
func tryTag(t *testing.T, list string, want int, words ...string) {
	t.Helper()
	for _, w := range words {
		if tag, fault, place := munch.Tag(list, w); tag != want || fault != munch.OK || place != 0 {
			t.Errorf("P4: Tag(%q, %q) = %d %d %d, want %d 0 0", list, w, tag, fault, place, want)
		}
	}
}

type tagCase struct {
	list    string
	in, out []string
}

func tryTags(t *testing.T, cases []tagCase) {
	t.Helper()
	for _, c := range cases {
		tryTag(t, c.list, 0, c.in...)
		tryTag(t, c.list, -1, c.out...)
	}
}

func TestTagAtoms(t *testing.T) {
	tryTags(t, []tagCase{
		{"a", []string{"a"}, []string{"", "b", "aa", "A", "ab", "ba"}},
		{"\x00", []string{"\x00"}, []string{"", "0", "\x01"}},
		{"\xff", []string{"\xff"}, []string{"", "\xfe", "\x7f", "ÿ"}},
		{"é", []string{"é"}, []string{"\xc3", "e"}},
		{"^", []string{"^"}, []string{"", "a"}},
		{"-,", []string{"-,"}, []string{"-", ","}},
		{".", []string{"a", "\n", "\x00", "\xff", "\x80", ".", "|"}, []string{"", "ab", "é"}},
		{"\\.", []string{"."}, []string{"a", "\\", "\\."}},
		{"\\\\", []string{"\\"}, []string{"\\\\", "a"}},
		{"\\n", []string{"n"}, []string{"\n"}},
		{"\\(\\)\\|", []string{"()|"}, []string{"", "()"}},
		{"\\\xfe", []string{"\xfe"}, []string{"\xff"}},
		{"()", []string{""}, []string{"a", "()"}},
		{"(a)", []string{"a"}, []string{"", "(a)"}},
		{"(ab)", []string{"ab"}, []string{"a", "b"}},
		{"((((((((a))))))))", []string{"a"}, []string{"", "aa"}},
	})
}

func TestTagSpans(t *testing.T) {
	tryTags(t, []tagCase{
		{"[]", nil, []string{"", "a", "[]", "\x00", "\xff"}},
		{"[^]", []string{"a", "\n", "\x00", "\xff"}, []string{"", "ab"}},
		{"[abc]", []string{"a", "b", "c"}, []string{"", "d", "`", "ab"}},
		{"[b-d]", []string{"b", "c", "d"}, []string{"a", "e", "-", ""}},
		{"[c-c]", []string{"c"}, []string{"b", "d", "-"}},
		{"[a-cx]", []string{"a", "c", "x"}, []string{"d", "w", "y", "-"}},
		{"[xa-c]", []string{"a", "c", "x"}, []string{"d", "w", "y", "-"}},
		{"[a-cx-z]", []string{"b", "y"}, []string{"d", "w", "-"}},
		{"[^a-c]", []string{"d", "`", "\n", "\x00", "\xff", "^", "-"}, []string{"", "a", "b", "c", "dd"}},
		{"[^a-cx]", []string{"d", "y"}, []string{"a", "x"}},
		{"[\x00-\xff]", []string{"\x00", "\n", "\xff"}, []string{""}},
		{"[^\x00-\xff]", nil, []string{"", "\x00", "\n", "a", "\xff"}},
		{"[\x80-\xfe]", []string{"\x80", "\xc3", "\xfe"}, []string{"\x7f", "\xff"}},
		{"[\\]]", []string{"]"}, []string{"\\", "\\]"}},
		{"[\\\\]", []string{"\\"}, []string{"]", "\\\\"}},
		{"[\\^\\-\\[]", []string{"^", "-", "["}, []string{"\\", "]"}},
		{"[^\\^]", []string{"a", "\\"}, []string{"^"}},
		{"[\\\n]", []string{"\n"}, []string{"\\", "n"}},
		{"[^\\\n]", []string{"\\", "n"}, []string{"\n"}},
		{"[\\a-\\c]", []string{"a", "b", "c"}, []string{"\\", "-", "d"}},
		{"[\\\n-\\\r]", []string{"\n", "\x0b", "\r"}, []string{"\t", "\x0e"}},
		{"[\\n]", []string{"n"}, []string{"\n", "\\"}},
		{"[|&!*+?{}().]", []string{"|", "&", "!", "*", "+", "?", "{", "}", "(", ")", "."}, []string{"a", "[", "]", "^", "-", "\\", ",", "/"}},
		{"[ab]a[^b]", []string{"aaa", "bac"}, []string{"aab", "caa", "aa"}},
	})
}

func TestTagPieces(t *testing.T) {
	tryTags(t, []tagCase{
		{"a*", []string{"", "a", "aa", rep("a", 1000)}, []string{"b", "ab", "ba", rep("a", 1000) + "b"}},
		{"a+", []string{"a", "aa", rep("a", 1000)}, []string{"", "b", "ab"}},
		{"a?", []string{"", "a"}, []string{"aa", "b"}},
		{"a{0,1}", []string{"", "a"}, []string{"aa"}},
		{"a{1,1}", []string{"a"}, []string{"", "aa"}},
		{"a{0,3}", []string{"", "a", "aa", "aaa"}, []string{"aaaa", "b"}},
		{"a{2,2}", []string{"aa"}, []string{"", "a", "aaa"}},
		{"a{2,4}", []string{"aa", "aaa", "aaaa"}, []string{"", "a", "aaaaa"}},
		{"a{9,9}", []string{rep("a", 9)}, []string{rep("a", 8), rep("a", 10)}},
		{"a{0,9}b", []string{"b", "aaab", rep("a", 9) + "b"}, []string{rep("a", 10) + "b", "a"}},
		{".{2,3}", []string{"ab", "\n\n\n"}, []string{"a", "abcd"}},
		{"[ab]{2,3}", []string{"ab", "bba"}, []string{"a", "abc", "abab"}},
		{"\\*{1,2}", []string{"*", "**"}, []string{"", "***"}},
		{"(ab)*", []string{"", "ab", "abab"}, []string{"a", "aba", "aab"}},
		{"(ab)+", []string{"ab", "abab"}, []string{"", "aba"}},
		{"(ab)?", []string{"", "ab"}, []string{"a", "abab"}},
		{"(ab){2,3}", []string{"abab", "ababab"}, []string{"", "ab", "abababab", "ababa"}},
		{"ab*", []string{"a", "abb"}, []string{"", "abab"}},
		{"(a|b)*abb", []string{"abb", "ababb", "bbabb"}, []string{"ab", "abba"}},
		{"(a*)*", []string{"", "aaa"}, []string{"b"}},
		{"(a*b*)*", []string{"", "abba"}, []string{"c"}},
		{"(a?){2,3}", []string{"", "a", "aa", "aaa"}, []string{"aaaa"}},
		{"(a|){2,2}b", []string{"b", "ab", "aab"}, []string{"aaab", ""}},
		{"(a{2,2})*", []string{"", "aa", "aaaa"}, []string{"a", "aaa"}},
		{"(a{2,3})+", []string{"aa", "aaa", "aaaa", "aaaaa"}, []string{"", "a"}},
		{"(a{2,2}){2,2}", []string{"aaaa"}, []string{"", "aa", "aaa", "aaaaa"}},
		{"(a+){2,2}", []string{"aa", "aaa"}, []string{"", "a"}},
		{"(a+){0,1}", []string{"", "a", "aa"}, []string{"b"}},
		{"(a?)+", []string{"", "a", "aaa"}, []string{"b"}},
		{"(a|bc){2,2}", []string{"aa", "abc", "bca", "bcbc"}, []string{"a", "bc", "aab"}},
		{"()*", []string{""}, []string{"a"}}, {"()+", []string{""}, []string{"a"}}, {"(){3,9}", []string{""}, []string{"a"}},
		{"[]*", []string{""}, []string{"a"}}, {"[]+", nil, []string{"", "a"}}, {"[]?", []string{""}, []string{"a"}}, {"[]{0,2}", []string{""}, []string{"a"}}, {"[]{1,2}", nil, []string{"", "a"}},
		{".*", []string{"", "a", "\n\xff"}, nil}, {".+", []string{"a", "\n\xff"}, []string{""}}, {"(.*)?a", []string{"a", "ba"}, []string{"", "ab"}}, {".*a.*", []string{"a", "bab"}, []string{"", "bb"}},
		{"a(.*)*b", []string{"ab", "acb"}, []string{"a", "b", "abc"}},
	})
}

func TestTagRowsAndForms(t *testing.T) {
	tryTags(t, []tagCase{
		{"", []string{""}, []string{"a", "\n", "\x00"}},
		{"|", []string{""}, []string{"|", "a"}},
		{"a|", []string{"", "a"}, []string{"b", "aa"}},
		{"|a", []string{"", "a"}, []string{"b"}},
		{"a||b", []string{"", "a", "b"}, []string{"ab"}},
		{"ab|c", []string{"ab", "c"}, []string{"a", "b", "ac", "abc"}},
		{"a|b*", []string{"", "a", "b", "bb"}, []string{"aa", "ab"}},
		{"(a|b)c", []string{"ac", "bc"}, []string{"a", "c", "ab"}},
		{"(|a)b", []string{"b", "ab"}, []string{"", "a", "aab"}},
		{"(a|ab)(c|bcd)(d*)", []string{"ac", "abc", "abcd", "acddd", "abbcd", "abcdd"}, []string{"ab", "bcd", "abbc"}},
		{"[]|a", []string{"a"}, []string{"", "b"}},
		{"a[]|b", []string{"b"}, []string{"", "a"}},
		{"a[]", nil, []string{"", "a"}},
		{"a()b", []string{"ab"}, []string{"a", "b"}},
		{"a|a|a", []string{"a"}, []string{"", "aa"}},
		{"ab|ac|ad", []string{"ab", "ac", "ad"}, []string{"a", "ae", "abc"}},
		{"ab|cb", []string{"ab", "cb"}, []string{"b", "acb"}},
		{rep("|", 80), []string{""}, []string{"a"}},
	})
}

func TestTagParts(t *testing.T) {
	tryTags(t, []tagCase{
		{"!", []string{"a", "\n", "ab"}, []string{""}},
		{"!a", []string{"", "b", "aa", "\n"}, []string{"a"}},
		{"!a|b", []string{"", "c", "ab"}, []string{"a", "b"}},
		{"!a*", []string{"b", "ab", "\xff"}, []string{"", "a", "aa"}},
		{"![]", []string{"", "a", "\n"}, nil},
		{"![^]", []string{"", "ab"}, []string{"a", "\n"}},
		{"!.*", nil, []string{"", "a", "\n\n"}},
		{"!.+", []string{""}, []string{"a", "ab"}},
		{"&", []string{""}, []string{"a"}},
		{"a&", nil, []string{"", "a"}}, {"a*&", []string{""}, []string{"a"}},
		{"a&b", nil, []string{"", "a", "b", "ab"}},
		{"a&a", []string{"a"}, []string{"", "aa"}},
		{"[a-c]&[b-d]", []string{"b", "c"}, []string{"a", "d", ""}},
		{"a*&!aa", []string{"", "a", "aaa"}, []string{"aa", "b"}},
		{"!a&!b", []string{"", "c", "ab"}, []string{"a", "b"}},
		{"!a&a", nil, []string{"", "a", "b"}},
		{"!a|b&b|c", []string{"c"}, []string{"a", "b", "d", ""}},
		{".*a&b.*&!.*c.*", []string{"ba", "bxa"}, []string{"a", "b", "bca", "aba"}},
		{"(aa)*&(aaa)*", []string{"", rep("a", 6), rep("a", 12)}, []string{"aa", "aaa", rep("a", 8), rep("a", 9)}},
		{"!(aa)*&!(aaa)*", []string{"a", rep("a", 5), "b"}, []string{"", "aa", "aaa", rep("a", 6)}},
		{"!&!a", []string{"b", "aa"}, []string{"", "a"}},
	})
}

func TestTagLists(t *testing.T) {
	tryTag(t, "a\nb\nc\nd\ne", 0, "a")
	tryTag(t, "a\nb\nc\nd\ne", 1, "b")
	tryTag(t, "a\nb\nc\nd\ne", 2, "c")
	tryTag(t, "a\nb\nc\nd\ne", 3, "d")
	tryTag(t, "a\nb\nc\nd\ne", 4, "e")
	tryTag(t, "a\nb\nc\nd\ne", -1, "", "f", "ab", "\n", "a\nb")
	tryTag(t, "if\n[a-z]+\n.", 0, "if")
	tryTag(t, "if\n[a-z]+\n.", 1, "i", "iff", "x")
	tryTag(t, "if\n[a-z]+\n.", 2, "\n", "1", "I")
	tryTag(t, "if\n[a-z]+\n.", -1, "", "if ", "11")
	tryTag(t, "[a-z]+\nif", 0, "if", "x")
	tryTag(t, "a\na\na\na\na", 0, "a")
	tryTag(t, ".*\n.*\n.*\n.*\n.*", 0, "", "a")
	tryTag(t, "[]\n.\n.\n.\n.", 1, "a")
	tryTag(t, "\n\n\n\n", 0, "")
	tryTag(t, "a\n", 1, "")
	tryTag(t, "a\n", -1, "\n", "a\n")
	tryTag(t, "a\n\n!", 1, "")
	tryTag(t, "a\n\n!", 2, "b", "aa", "\n")
	tryTag(t, "!a\nb\na", 0, "b", "")
	tryTag(t, "!a\nb\na", 2, "a")
	tryTag(t, "a&b\na*\nb", 1, "a", "")
	tryTag(t, "a&b\na*\nb", 2, "b")
	tryTag(t, "\\\\\n[\\\n]", 0, "\\")
	tryTag(t, "\\\\\n[\\\n]", 1, "\n")
}

func TestTagNewlinesInTheText(t *testing.T) {
	tryTag(t, "a.b", 0, "a\nb")
	tryTag(t, "a[^b]b", 0, "a\nb")
	tryTag(t, "a[\\\n]+b", 0, "a\nb", "a\n\n\nb")
	tryTag(t, "a\nb", -1, "a\nb", "\n", "a\n", "\nb")
	tryTag(t, "!a", 0, "\n", "a\n", "\na")
	tryTag(t, ".*", 0, "\n", "\n\n", "a\n")
}

func TestTagGivesTheErrorOfCheck(t *testing.T) {
	lists := []string{"", "a!", "(", "a{2,1}", "[b-a]", "\\\n", "\n\n\n\n\n", rep("(", 9) + rep(")", 9), rep("a", 11), rep("a", 81), rep("|", 81), "a)", "a\n*"}
	for _, list := range lists {
		fault, place := munch.Check(list)
		for _, w := range []string{"", "a", "\n", rep("a", 1000)} {
			tag, tagFault, tagPlace := munch.Tag(list, w)
			if tagFault != fault || tagPlace != place || fault != munch.OK && tag != 0 {
				t.Errorf("P4: Tag(%q, %.10q) = %d %d %d, but Check says %d %d", list, w, tag, tagFault, tagPlace, fault, place)
			}
		}
	}
}

func compareTag(t *testing.T, list string, second secondTag, w string) {
	t.Helper()
	tag, fault, place := munch.Tag(list, w)
	if want := second.tag(w); tag != want || fault != munch.OK || place != 0 {
		t.Fatalf("P4: Tag(%q, %q) = %d %d %d, want %d 0 0", list, w, tag, fault, place, want)
	}
}

func TestTagMadeUpLists(t *testing.T) {
	r := rand.New(rand.NewSource(4))
	for range 3000 {
		list := madeGoodList(r)
		second := ready(list)
		compareTag(t, list, second, "")
		for range 15 {
			compareTag(t, list, second, madeText(r, "aabbc\\\n]\xff", 7))
		}
	}
}

// Each byte by itself, where sets end.
func TestTagEveryByte(t *testing.T) {
	for _, list := range []string{".", "[^]", "[]", "[a-f]", "[^a-f]", "[\x00-\x1f\x7f-\xff]", "[\\\n-\\-]", "!.&![a-z]|aa", "[a-m]\n[h-z]\n!.\n[A-Z]|a|\xff", "\\]|[\\]-_]"} {
		second := ready(list)
		for b := range 256 {
			compareTag(t, list, second, string([]byte{byte(b)}))
		}
	}
}
