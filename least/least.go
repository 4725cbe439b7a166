// Package least: makes the least table of a list of patterns.
package least

import (
	"strconv"

	"munch/store"
	"munch/table"
	"munch/tree"
)

// Table answers the least table of patterns.
func Table(patterns []tree.Tree) table.Table {
	m := explore(patterns)
	return m.lay(m.groups())
}

// machine is all that texts come to. Two of its states may be told apart by no text.
type machine struct {
	kinds [256]int // of bytes: those of one kind lead to the same states from everywhere
	tags  []int
	next  [][]int // by a state, by a kind of bytes
}

// groups gives states the same number just if no text tells them apart: it splits them by what is seen one byte further on, until nothing is left to split.
func (m machine) groups() []int {
	groups, count := make([]int, len(m.tags)), 1
	for {
		finer, more := m.split(groups)
		if more == count {
			return groups
		}
		groups, count = finer, more
	}
}

func (m machine) split(groups []int) ([]int, int) {
	finer, count := make([]int, len(groups)), 0
	numbers := store.New[string, int]()
	for s := range groups {
		finer[s] = numbers.Find(m.view(s, groups), func() int {
			count++
			return count - 1
		})
	}
	return finer, count
}

// view tells what is seen from a state: its tag, its group, and the groups behind it.
func (m machine) view(s int, groups []int) string {
	seen := []int{m.tags[s], groups[s]}
	for _, to := range m.next[s] {
		seen = append(seen, groups[to])
	}
	return keyOf(seen)
}

// keyOf writes numbers so that they can be a store's key.
func keyOf(numbers []int) string {
	var key []byte
	for _, n := range numbers {
		key = strconv.AppendInt(key, int64(n), 36)
		key = append(key, ' ')
	}
	return string(key)
}

// lay numbers the groups in the order in which they are met, and leaves out the one from which no tag is come to.
func (m machine) lay(groups []int) table.Table {
	var order []int // a state of each group
	numbers := store.New[int, int]()
	number := func(s int) int {
		return numbers.Find(groups[s], func() int {
			order = append(order, s)
			return len(order) - 1
		})
	}
	number(0)
	lost := m.lost(groups)
	var out table.Table
	for at := 0; at < len(order); at++ {
		s := order[at]
		var edges []table.Edge
		for b, kind := range m.kinds {
			if to := m.next[s][kind]; groups[to] != lost {
				edges = extend(edges, byte(b), number(to))
			}
		}
		out = append(out, table.State{Tag: m.tags[s], Edges: edges})
	}
	return out
}

const none = -1

// lost answers the group from which no tag is come to, or none. It is the one without a tag that one never leaves; there is at most one.
func (m machine) lost(groups []int) int {
	for s, group := range groups {
		stays := m.tags[s] == table.NoTag
		for _, to := range m.next[s] {
			stays = stays && groups[to] == group
		}
		if stays {
			return group
		}
	}
	return none
}

// extend lets the last edge hold one byte more, if it can, or adds an edge.
func extend(edges []table.Edge, b byte, to int) []table.Edge {
	if last := len(edges) - 1; last >= 0 && edges[last].State == to && edges[last].To+1 == b {
		edges[last].To = b
		return edges
	}
	return append(edges, table.Edge{From: b, To: b, State: to})
}
