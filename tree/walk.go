package tree

import (
	"munch/set"
	"munch/store"
)

// walker goes by bytes from tree to tree, and makes no step twice: a text may be long, but there are few trees to come to.
type walker struct {
	lowest  [256]byte // for each byte the lowest one that is like it
	trees   []Tree
	numbers *store.Store[string, int] // by the trees' keys
	steps   *store.Store[step, int]
}

type step struct {
	from int
	by   byte
}

func newWalker(start Tree) *walker {
	w := &walker{
		lowest:  alike(start),
		numbers: store.New[string, int](),
		steps:   store.New[step, int](),
	}
	w.number(start)
	return w
}

func (w *walker) number(t Tree) int {
	return w.numbers.Find(t.Key(), func() int {
		w.trees = append(w.trees, t)
		return len(w.trees) - 1
	})
}

func (w *walker) next(from int, b byte) int {
	by := w.lowest[b]
	return w.steps.Find(step{from, by}, func() int {
		return w.number(w.trees[from].Behind(by))
	})
}

// Has tells whether a text is a word of the tree.
func Has(t Tree, text string) bool {
	w := newWalker(t)
	at := 0
	for i := range len(text) {
		at = w.next(at, text[i])
	}
	return w.trees[at].HasEmpty()
}

type side struct {
	lowest byte
	in     bool
}

// alike answers for each byte the lowest one that no set in the tree tells from it.
func alike(t Tree) [256]byte {
	var lowest [256]byte
	t.eachSet(func(in set.Set) {
		sides := store.New[side, byte]()
		for b := range lowest {
			lowest[b] = sides.Find(side{lowest[b], in(byte(b))}, func() byte { return byte(b) })
		}
	})
	return lowest
}
