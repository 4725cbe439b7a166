package least

import (
	"testing"

	"munch/set"
	"munch/tree"
)

func TestTable(t *testing.T) {
	a, b := tree.Bytes(set.Span('a', 'a')), tree.Bytes(set.Span('b', 'b'))
	twoA := tree.Then(a, a)
	star := func(x tree.Tree) tree.Tree { return tree.Repeat(x, 0, tree.NoBound) }
	for i, c := range []struct {
		patterns []tree.Tree
		want     string
	}{
		{nil, "-"},
		{[]tree.Tree{tree.OneOf()}, "-"},
		{[]tree.Tree{tree.Empty()}, "0"},
		{[]tree.Tree{tree.AllOf()}, "0,00ff>0000"},
		{[]tree.Tree{a}, "-,6161>0001;0"},
		{[]tree.Tree{b, a}, "-,6161>0001,6262>0002;1;0"},
		{[]tree.Tree{tree.OneOf(a, b), a}, "-,6162>0001;0"},
		{[]tree.Tree{star(a), twoA}, "0,6161>0000"},
		{[]tree.Tree{twoA, star(a)}, "1,6161>0001;1,6161>0002;0,6161>0003;1,6161>0003"},
		{[]tree.Tree{tree.OneOf(star(twoA), tree.Then(a, star(twoA)))}, "0,6161>0000"}, // two trees that no text tells apart
		{[]tree.Tree{tree.Not(a)}, "0,0060>0001,6161>0002,62ff>0001;0,00ff>0001;-,00ff>0001"},
		{[]tree.Tree{tree.Bytes(set.Outside(set.Span('b', 'y')))}, "-,0061>0001,7aff>0001;0"},
	} {
		if got := Table(c.patterns).Text(); got != c.want {
			t.Errorf("%d: %q, want %q", i, got, c.want)
		}
	}
}

func TestKeysOfNumbers(t *testing.T) {
	met := map[string]int{}
	for i, numbers := range [][]int{{}, {0}, {1}, {-1}, {36}, {1, 0}, {1, 36}, {37, 0}, {1, 1, 0}, {1332}, {-1, -1}, {10, 0}, {0, 10}, {0, 0}} {
		key := keyOf(numbers)
		if other, ok := met[key]; ok {
			t.Errorf("%d and %d have the key %q", other, i, key)
		}
		met[key] = i
	}
}
