package tree

import (
	"munch/set"
	"munch/store"
)

// Walker goes by bytes from tree to tree, and makes no step twice: a text may be long, but there are few trees to come to. It numbers the trees as it meets them; the one it starts from is 0. Make it by NewWalker.
type Walker struct {
	lowest  [256]byte
	trees   []Tree
	numbers *store.Store[string, int] // by the trees' keys
	steps   *store.Store[step, int]
}

type step struct {
	from int
	by   byte
}

// NewWalker makes a walker that has met the tree start alone.
func NewWalker(start Tree) *Walker {
	w := &Walker{
		lowest:  alike(start),
		numbers: store.New[string, int](),
		steps:   store.New[step, int](),
	}
	w.number(start)
	return w
}

func (w *Walker) number(t Tree) int {
	return w.numbers.Find(t.Key(), func() int {
		w.trees = append(w.trees, t)
		return len(w.trees) - 1
	})
}

// Lowest answers the lowest byte that leads to the same trees as b, from wherever one goes.
func (w *Walker) Lowest(b byte) byte { return w.lowest[b] }

// Next answers the number of the tree to which b leads.
func (w *Walker) Next(from int, b byte) int {
	by := w.lowest[b]
	return w.steps.Find(step{from, by}, func() int {
		return w.number(w.trees[from].Behind(by))
	})
}

// HasEmpty tells whether the empty text is a word of a tree that was met.
func (w *Walker) HasEmpty(at int) bool { return w.trees[at].HasEmpty() }

// Has tells whether a text is a word of the tree.
func Has(t Tree, text string) bool {
	w := NewWalker(t)
	at := 0
	for i := range len(text) {
		at = w.Next(at, text[i])
	}
	return w.HasEmpty(at)
}

type side struct {
	lowest byte
	in     bool
}

// alike answers for each byte the lowest one that no set in the tree tells from it.
func alike(t Tree) [256]byte {
	var lowest [256]byte
	t.eachSet(func(in set.Set) {
		sides := store.New[side, byte]()
		for b := range lowest {
			lowest[b] = sides.Find(side{lowest[b], in(byte(b))}, func() byte { return byte(b) })
		}
	})
	return lowest
}
