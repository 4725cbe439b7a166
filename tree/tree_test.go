package tree

import (
	"testing"

	"munch/set"
)

func b(from, to byte) Tree { return Bytes(set.Span(from, to)) }

func star(t Tree) Tree { return Repeat(t, 0, NoBound) }

// Trees that mean the same and must have the same form.
func TestSameForm(t *testing.T) {
	x, y, z := b('x', 'x'), b('y', 'y'), b('z', 'z')
	xy, anything := Then(x, y), star(b(0, 255))
	for i, same := range [][]Tree{
		{OneOf(), Bytes(set.AnyOf()), Then(x, OneOf()), Then(OneOf(), x), OneOf(OneOf(), OneOf()), AllOf(x, y), AllOf(x, Not(x)), AllOf(x, OneOf()), Not(AllOf()), Not(anything), Repeat(OneOf(), 1, 2), x.Behind('y'), Empty().Behind('x')},
		{AllOf(), Not(OneOf()), anything, OneOf(x, anything), OneOf(xy, Not(xy)), AllOf(AllOf()), star(anything), Repeat(anything, 2, 3), anything.Behind('a'), Not(x).Behind('y')},
		{Empty(), Then(Empty(), Empty()), star(Empty()), star(OneOf()), Repeat(OneOf(), 0, 3), Repeat(x, 0, 0), Repeat(Empty(), 2, 3), OneOf(Empty(), Empty()), x.Behind('x')},
		{x, OneOf(x), AllOf(x), OneOf(x, x), AllOf(x, x), OneOf(x, OneOf()), AllOf(x, AllOf()), Then(x, Empty()), Then(Empty(), x), Repeat(x, 1, 1), Not(Not(x)), AllOf(b('a', 'x'), b('x', 'z'))},
		{OneOf(x, xy, Empty()), OneOf(Empty(), x, xy), OneOf(xy, OneOf(Empty(), x)), OneOf(OneOf(x, Empty()), OneOf(xy, x))},
		{AllOf(star(x), Not(x), Not(xy)), AllOf(Not(xy), star(x), Not(x)), AllOf(AllOf(Not(x), star(x)), AllOf(Not(xy), star(x)))},
		{b('x', 'z'), OneOf(x, y, z), OneOf(z, y, x), OneOf(b('x', 'y'), b('y', 'z')), AllOf(b('x', 'z'), b(0, 255))},
		{Then(b('x', 'y'), z), OneOf(Then(x, z), Then(y, z))},
		{Then(Then(x, y), z), Then(x, Then(y, z)), Then(Then(x, Empty()), Then(y, z))},
		{star(x), star(star(x)), Repeat(star(x), 1, NoBound), Repeat(star(x), 0, 1), Repeat(star(x), 2, 3)},
		{Repeat(OneOf(xy, Empty()), 0, 3), Repeat(OneOf(xy, Empty()), 2, 3), Repeat(OneOf(xy, Empty()), 3, 3)},
		{OneOf(xy, Empty()), Repeat(OneOf(xy, Empty()), 0, 1), Repeat(OneOf(xy, Empty()), 1, 1)},
	} {
		for j, u := range same {
			if u.Key() != same[0].Key() {
				t.Errorf("%d.%d: %s, want %s", i, j, u.Key(), same[0].Key())
			}
		}
	}
}

// Trees of which each means something else: no two may have the same form.
func TestOtherForm(t *testing.T) {
	x, y := b('x', 'x'), b('y', 'y')
	xy := Then(x, y)
	met := map[string]int{}
	for i, u := range []Tree{
		OneOf(), AllOf(), Empty(), x, y, b('x', 'y'), b(0, 255), xy, Then(y, x), Then(x, x), Then(x, xy), Then(xy, xy),
		star(x), star(y), star(xy), Then(star(x), y), Then(x, star(y)), Repeat(x, 1, NoBound), Repeat(x, 0, 1), Repeat(x, 0, 2), Repeat(x, 1, 2), Repeat(x, 2, 2), Repeat(xy, 1, 2),
		Not(x), Not(xy), Not(Empty()), OneOf(x, xy), OneOf(xy, Then(y, x)), Then(OneOf(xy, Empty()), x), OneOf(xy, x, Empty()),
		AllOf(star(x), Not(xy)), AllOf(star(x), Not(x)), OneOf(star(x), Not(xy)), Not(star(x)), AllOf(star(b('x', 'y')), Not(star(x))),
	} {
		if was, ok := met[u.Key()]; ok {
			t.Errorf("%d and %d are both %s", was, i, u.Key())
		}
		met[u.Key()] = i
	}
}

func TestJoinsLeaveTheirArguments(t *testing.T) {
	x, y := star(b('x', 'x')), star(b('y', 'y'))
	for _, join := range []func(...Tree) Tree{OneOf, AllOf} {
		given := []Tree{y, x, y}
		inner := join(given...)
		join(Not(y), inner, Not(x))
		if given[0].Key() != y.Key() || given[1].Key() != x.Key() || given[2].Key() != y.Key() {
			t.Error("a join has moved its arguments")
		}
		if inner.Key() != join(x, y).Key() {
			t.Error("a join has changed a tree that it was given")
		}
	}
}

func TestHas(t *testing.T) {
	x, y, z := b('x', 'x'), b('y', 'y'), b('z', 'z')
	xy := Then(x, y)
	for i, c := range []struct {
		t    Tree
		in   []string
		out  []string
		most int // trees that may be met
	}{
		{OneOf(), nil, []string{"", "x"}, 1},
		{AllOf(), []string{"", "x", "\n\xff"}, nil, 1},
		{Empty(), []string{""}, []string{"x"}, 2},
		{b('x', 'y'), []string{"x", "y"}, []string{"", "z", "xy"}, 3},
		{Then(OneOf(xy, Empty()), OneOf(z, xy)), []string{"z", "xy", "xyz", "xyxy"}, []string{"", "xyxyz", "x"}, 9},
		{Repeat(OneOf(x, Empty()), 2, 3), []string{"", "x", "xx", "xxx"}, []string{"xxxx", "y"}, 6},
		{Repeat(OneOf(x, xy), 2, 3), []string{"xx", "xyx", "xxyx", "xyxyxy"}, []string{"", "x", "xy", "xxxx", "xyy"}, 9},
		{star(Then(star(x), y)), []string{"", "y", "xxy", "yxy"}, []string{"x", "yx"}, 4},
		{AllOf(star(x), Not(Then(x, x))), []string{"", "x", "xxx"}, []string{"xx", "y"}, 6},
		{OneOf(Not(star(x)), xy), []string{"y", "xy", "xyx"}, []string{"", "x", "xx"}, 6},
		{Then(AllOf(), x), []string{"x", "yx", "xx"}, []string{"", "xy"}, 3},
	} {
		for _, w := range c.in {
			if !Has(c.t, w) {
				t.Errorf("%d: %q is a word", i, w)
			}
		}
		for _, w := range c.out {
			if Has(c.t, w) {
				t.Errorf("%d: %q is no word", i, w)
			}
		}
		if n := countTrees(c.t); n > c.most {
			t.Errorf("%d: comes to %d trees, want at most %d", i, n, c.most)
		}
	}
}

// countTrees goes from a tree to all that can be come to.
func countTrees(t Tree) int {
	w := NewWalker(t)
	for at := 0; at < len(w.trees) && at < 5000; at++ {
		for by := range 256 {
			w.Next(at, byte(by))
		}
	}
	return len(w.trees)
}

// The heaviest patterns must lead to few trees, or a text would take long.
func TestFewTrees(t *testing.T) {
	x, y, any := b('x', 'x'), b('y', 'y'), b(0, 255)
	deep := x
	for range 8 {
		deep = star(Then(Repeat(deep, 0, 1), Repeat(x, 0, 1)))
	}
	for i, u := range []Tree{
		Then(star(any), Then(x, Repeat(any, 8, 8))),
		Then(star(OneOf(x, y)), Then(x, Repeat(b('x', 'y'), 7, 7))),
		Repeat(Then(star(x), Repeat(y, 0, 1)), 5, 5),
		Repeat(Then(star(any), OneOf(x, Then(y, star(any)))), 2, 2),
		star(OneOf(Then(star(any), Then(x, Repeat(any, 4, 4))), star(Then(star(star(x)), y)))),
		AllOf(Then(star(any), Then(x, Repeat(any, 4, 4))), Not(Then(star(any), Then(y, Repeat(any, 3, 3))))),
		deep,
	} {
		if n := countTrees(u); n > 1200 {
			t.Errorf("%d: comes to %d trees or more", i, n)
		}
	}
}

func TestAlike(t *testing.T) {
	lowest := alike(AllOf(Not(Then(b('b', 'd'), star(b('d', 'f')))), Repeat(OneOf(b('x', 'x'), Empty()), 2, 3)))
	for _, c := range []struct{ b, want byte }{{0, 0}, {'a', 0}, {'b', 'b'}, {'c', 'b'}, {'d', 'd'}, {'e', 'e'}, {'f', 'e'}, {'g', 0}, {'x', 'x'}, {'y', 0}, {255, 0}} {
		if lowest[c.b] != c.want {
			t.Errorf("%q is like %q, want %q", c.b, lowest[c.b], c.want)
		}
	}
	if alike(Empty()) != [256]byte{} {
		t.Error("without sets all bytes are alike")
	}
}
