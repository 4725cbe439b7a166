package least

import (
	"munch/store"
	"munch/table"
	"munch/tree"
)

// explorer goes through all patterns at the same time. A state is where the walkers of the patterns stand.
type explorer struct {
	walkers []*tree.Walker
	states  [][]int
	numbers *store.Store[string, int]
}

func explore(patterns []tree.Tree) machine {
	e := explorer{numbers: store.New[string, int]()}
	for _, p := range patterns {
		e.walkers = append(e.walkers, tree.NewWalker(p))
	}
	e.number(make([]int, len(patterns)))
	kinds, first := e.kindsOfBytes()
	m := machine{kinds: kinds}
	for at := 0; at < len(e.states); at++ {
		var next []int
		for _, b := range first {
			next = append(next, e.number(e.behind(at, b)))
		}
		m.next = append(m.next, next)
		m.tags = append(m.tags, e.tag(at))
	}
	return m
}

func (e *explorer) number(places []int) int {
	return e.numbers.Find(keyOf(places), func() int {
		e.states = append(e.states, places)
		return len(e.states) - 1
	})
}

func (e *explorer) behind(at int, b byte) []int {
	places := make([]int, len(e.walkers))
	for i, w := range e.walkers {
		places[i] = w.Next(e.states[at][i], b)
	}
	return places
}

func (e *explorer) tag(at int) int {
	for i, w := range e.walkers {
		if w.HasEmpty(e.states[at][i]) {
			return i
		}
	}
	return table.NoTag
}

// kindsOfBytes answers the kind of each byte, and the first byte of each kind: bytes are of one kind if no walker tells them apart.
func (e *explorer) kindsOfBytes() (kinds [256]int, first []byte) {
	numbers := store.New[string, int]()
	for b := range kinds {
		lowest := make([]int, len(e.walkers))
		for i, w := range e.walkers {
			lowest[i] = int(w.Lowest(byte(b)))
		}
		kinds[b] = numbers.Find(keyOf(lowest), func() int {
			first = append(first, byte(b))
			return len(first) - 1
		})
	}
	return kinds, first
}
