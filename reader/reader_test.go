package reader

import (
	"testing"

	"munch/tree"
)

func TestRead(t *testing.T) {
	for _, c := range []struct {
		text             string
		patterns, weight int
		tooDeep          int
	}{
		{"", 1, 0, NoPlace}, {"a", 1, 1, NoPlace}, {"a\n\nb|c&!d", 3, 4, NoPlace}, {"(a{0,9}b){1,9}", 1, 90, NoPlace},
		{"[a-z]+\\.[]?", 1, 3, NoPlace}, {"(((((((((a)))))))))", 1, 1, 8}, {"((((((((a))))))))((((((((()))))))))", 1, 1, 25},
	} {
		list, place, ok := Read(c.text)
		if !ok || place != 0 || len(list.Patterns) != c.patterns || list.Weight != c.weight || list.TooDeep != c.tooDeep {
			t.Errorf("Read(%q) = %v %d %v", c.text, list, place, ok)
		}
	}
}

func TestReadFaults(t *testing.T) {
	for text, want := range map[string]int{"*": 0, "a**": 2, "(": 1, "[b-a]": 3, "a{1": 3, "\n\n\n\n\n": 4, "\\\n": 1, "(a&b)": 2} {
		if list, place, ok := Read(text); ok || place != want || list.Patterns != nil || list.Weight != 0 || list.TooDeep != 0 {
			t.Errorf("Read(%q) = %v %d %v, want the place %d", text, list, place, ok, want)
		}
	}
}

// Texts that are written otherwise and must be read as the same tree.
func TestReadSameTrees(t *testing.T) {
	for _, same := range [][]string{
		{"a", "\\a", "[a]", "[a-a]", "(a)", "a{1,1}", "a|a", "a&a", "()a()", "a|[]"},
		{"[abc]", "[a-c]", "a|b|c", "c|b|a", "([c]|(b|a))", "[a-z]&[^d-z]"},
		{"a*", "(a*)*", "(a*)+", "(a*)?", "(a*){2,3}"},
		{".*", "[^]*", "![]", ".*&.*"},
		{"", "()", "|", "()*", "[]*", "(){3,4}", "(|()){0,9}"},
		{"a?", "a{0,1}"}, {"abc", "(ab)c", "a(bc)", "(((a)b)c)"}, {"!a&!b", "!b&!a"},
	} {
		first := key(t, same[0])
		for _, text := range same {
			if got := key(t, text); got != first {
				t.Errorf("%q is read as %s, %q as %s", text, got, same[0], first)
			}
		}
	}
}

func key(t *testing.T, text string) string {
	t.Helper()
	list, place, ok := Read(text)
	if !ok {
		t.Fatalf("Read(%q) fails at %d", text, place)
	}
	return tree.OneOf(list.Patterns...).Key()
}
