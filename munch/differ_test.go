package munch_test

import (
	"math/rand"
	"testing"

	"munch/munch"
)

// tryDiffer asks for a text that tells two lists apart, both ways round. No text wanted is told by same.
func tryDiffer(t *testing.T, a, b string, same bool, want string) {
	t.Helper()
	for range 2 {
		if differ, w, fault, place := munch.Differ(a, b); differ == same || w != want || fault != munch.OK || place != 0 {
			t.Errorf("P8: Differ(%q, %q) = %v %q %d %d, want %v %q 0 0", a, b, differ, w, fault, place, !same, want)
		}
		a, b = b, a
	}
}

func TestDiffer(t *testing.T) {
	for _, c := range []struct{ a, b, want string }{
		{"", "a", ""}, {"", "[]", ""}, {"a*", "a+", ""}, {"", "a\n", ""}, {".*", "!", ""}, {"!.*", ".*", ""},
		{"a", "[]", "a"}, {"a", "b", "a"}, {"b", "a", "a"}, {"a", "aa", "a"}, {"[a-c]", "[b-d]", "a"}, {"[b-d]", "[b-c]", "d"}, {"\xff", "[]", "\xff"}, {"\x00", "[]", "\x00"}, {".", "[]", "\x00"},
		{".", "[^\\\n]", "\n"}, {".", "[^\xff]", "\xff"}, {"[^a]", "[^b]", "a"}, {"!a", "!b", "a"}, {"!a", ".*", "a"},
		{"a\nb", "b\na", "a"}, {"a\nb", "a|b", "b"}, {"a\nb", "a\nc", "b"}, {"a\n\nb", "a\nb", ""}, {"a\n[]\nb", "a\nb", "b"}, {"[]\na", "a", "a"}, {"a|b\na", "a\nb", "b"}, {".\na", "a\n.", "\x00"},
		{"a{1,3}", "a{1,4}", "aaaa"}, {"a{2,4}", "a{3,4}", "aa"}, {"a*&!(aaa)", "a*", "aaa"}, {"a*", "a{0,9}", "aaaaaaaaaa"}, {"(aaa)*&(aa)*&(aaaaa)*", "a{0,1}&", rep("a", 30)},
		{"ab|ba", "[ab]{2,2}", "aa"}, {"ba|bb", "ab|bb", "ab"}, {"(ab)*", "(ab)*|(ba)+", "ba"}, {"zz|ab|ba", "ba", "ab"}, {"b|aa", "aa", "b"}, {"c|aa", "ab", "c"}, {"aab|b", "aac|b", "aab"}, {"aab|aac", "aa[bcd]|x", "x"},
		{".*a.{8,8}", ".*a.{7,7}", "a\x00\x00\x00\x00\x00\x00\x00"}, {".*a.{8,8}", "[^b]*a.{8,8}", "ba\x00\x00\x00\x00\x00\x00\x00\x00"},
		{"if\n[a-z]+", "[a-z]+\nif", "a"}, {"if\n[a-z]+", "if\n[a-z]+&!xyz", "xyz"}, {"if\n[a-z]+", "ig\n[a-z]+", "if"},
	} {
		tryDiffer(t, c.a, c.b, false, c.want)
	}
	for _, list := range []string{"", "a", "[]", ".*", "!a&!b", "a\nb\nc\nd\ne", ".*a.{8,8}", "(a|b)*abb"} {
		tryDiffer(t, list, list, true, "")
	}
	tryDiffer(t, "a\n[]", "a", true, "")
	tryDiffer(t, ".*", "!([])", true, "")
	tryDiffer(t, "(a*b)*a*", "[ab]*", true, "")
	tryDiffer(t, ".*a.{8,8}", "[^]*a.{2,2}.{6,6}", true, "")
}

// triedDiffer tries the texts one by one: whether one of at most so many signs differs, and the first one.
func triedDiffer(a, b asked, signs string, most int) (found bool, first string) {
	shortTexts(signs, most, func(w string) bool {
		if a.tag(w) != b.tag(w) {
			found, first = true, w
		}
		return !found
	})
	return found, first
}

func compareDiffer(t *testing.T, a, b string, signs string, most int) {
	t.Helper()
	differ, w, fault, place := munch.Differ(a, b)
	if fault != munch.OK || place != 0 || !differ && w != "" {
		t.Fatalf("P8: Differ(%q, %q) = %v %q %d %d", a, b, differ, w, fault, place)
	}
	ofA, ofB := asking(a), asking(b)
	if differ && ofA.tag(w) == ofB.tag(w) {
		t.Fatalf("P8: Differ(%q, %q) = %q, which has the tag %d by both", a, b, w, ofA.tag(w))
	}
	found, first := triedDiffer(ofA, ofB, signs, most)
	if found && (!differ || first != w) || !found && differ && len(w) <= most {
		t.Fatalf("P8: Differ(%q, %q) = %v %q, but the texts one by one say %v %q", a, b, differ, w, found, first)
	}
}

func TestDifferMadeUpLists(t *testing.T) {
	r := rand.New(rand.NewSource(30))
	for range 1500 {
		a, b := madeGoodList(r), madeGoodList(r)
		compareDiffer(t, a, b, lowBytes(a, b), 3)
	}
}

// Lists that are nearly alike, so that the text is longer.
func TestDifferNearlyAlike(t *testing.T) {
	r := rand.New(rand.NewSource(31))
	long := 0
	for range 400 {
		a, b := twoWritten(r)
		b = nearly(r, b)
		compareDiffer(t, a, b, lowBytes(a, b), 4)
		if _, w, _, _ := munch.Differ(a, b); len(w) > 1 {
			long++
		}
	}
	if long < 100 {
		t.Errorf("only %d of the texts were long", long)
	}
}

// nearly changes a sign of a list so that it is another good one.
func nearly(r *rand.Rand, list string) string {
	const signs = "ab*+?|."
	for {
		at := r.Intn(len(list) + 1)
		other := list[:at] + signs[r.Intn(len(signs)):][:1] + list[min(len(list), at+r.Intn(2)):]
		if fault, _ := secondCheck(other); fault == munch.OK && other != list {
			return other
		}
	}
}

func TestDifferEveryByte(t *testing.T) {
	for b := range 256 {
		sign := "[\\" + string([]byte{byte(b)}) + "]"
		tryDiffer(t, ".*", ".*&!"+sign, false, string([]byte{byte(b)}))
		tryDiffer(t, "[]", ".*"+sign+"&..", false, "\x00"+string([]byte{byte(b)}))
	}
}

func TestDifferGivesTheErrorOfCheck(t *testing.T) {
	for _, bad := range badLists() {
		fault, place := munch.Check(bad)
		for _, good := range []string{"", "a", ".*a.{8,8}"} {
			tryDifferFault(t, bad, good, fault, place)
			tryDifferFault(t, good, bad, fault, place)
		}
		for _, other := range badLists() {
			tryDifferFault(t, bad, other, fault, place)
		}
	}
}

func tryDifferFault(t *testing.T, a, b string, want munch.Errno, wantPlace int) {
	t.Helper()
	if differ, w, fault, place := munch.Differ(a, b); differ || w != "" || fault != want || place != wantPlace {
		t.Errorf("P8: Differ(%.90q, %.90q) = %v %q %d %d, want false \"\" %d %d", a, b, differ, w, fault, place, want, wantPlace)
	}
}
