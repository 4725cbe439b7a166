package tree

import (
	"slices"
	"strings"

	"munch/set"
	"munch/store"
)

type choice struct {
	kids []Tree
	key  string
}

// OneOf answers a tree whose words are those of one tree or more: none, if there is no tree. The order, what is there twice, a choice in a choice, and whether bytes come as one set or as several make no difference to its form.
func OneOf(trees ...Tree) Tree {
	var kids []Tree
	for _, t := range trees {
		if c, ok := t.(choice); ok {
			kids = append(kids, c.kids...)
		} else {
			kids = append(kids, t)
		}
	}
	kids = settle(mergeHeads(kids))
	if opposed(kids) || has(kids, everythingKey) {
		return AllOf()
	}
	if len(kids) == 1 {
		return kids[0]
	}
	return choice{kids, "<" + joinKeys(kids) + ">"}
}

func (t choice) HasEmpty() bool { return slices.ContainsFunc(t.kids, Tree.HasEmpty) }

func (t choice) Behind(b byte) Tree { return OneOf(allBehind(t.kids, b)...) }

func (t choice) Key() string { return t.key }

func (t choice) eachSet(tell func(set.Set)) {
	for _, kid := range t.kids {
		kid.eachSet(tell)
	}
}

type meet struct {
	kids []Tree
	key  string
}

// AllOf answers a tree whose words are those that all trees have: every text, if there is no tree. Its form is as steady as that of OneOf.
func AllOf(trees ...Tree) Tree {
	var kids []Tree
	for _, t := range trees {
		if m, ok := t.(meet); ok {
			kids = append(kids, m.kids...)
		} else {
			kids = append(kids, t)
		}
	}
	kids = settle(mergeBytes(kids))
	if opposed(kids) || has(kids, nothingKey) {
		return OneOf()
	}
	if len(kids) == 1 {
		return kids[0]
	}
	return meet{kids, "&<" + joinKeys(kids) + ">"}
}

func (t meet) HasEmpty() bool {
	for _, kid := range t.kids {
		if !kid.HasEmpty() {
			return false
		}
	}
	return true
}

func (t meet) Behind(b byte) Tree { return AllOf(allBehind(t.kids, b)...) }

func (t meet) Key() string { return t.key }

func (t meet) eachSet(tell func(set.Set)) {
	for _, kid := range t.kids {
		kid.eachSet(tell)
	}
}

func allBehind(trees []Tree, b byte) []Tree {
	out := make([]Tree, len(trees))
	for i, t := range trees {
		out[i] = t.Behind(b)
	}
	return out
}

// settle puts trees in the order of their keys, each once. It changes the slice.
func settle(trees []Tree) []Tree {
	slices.SortFunc(trees, func(a, b Tree) int { return strings.Compare(a.Key(), b.Key()) })
	return slices.CompactFunc(trees, func(a, b Tree) bool { return a.Key() == b.Key() })
}

func has(trees []Tree, key string) bool {
	return slices.ContainsFunc(trees, func(t Tree) bool { return t.Key() == key })
}

// opposed tells whether one of the trees is just what another one is not.
func opposed(trees []Tree) bool {
	for _, t := range trees {
		if n, ok := t.(not); ok && has(trees, n.body.Key()) {
			return true
		}
	}
	return false
}

func joinKeys(trees []Tree) string {
	var keys strings.Builder
	for _, t := range trees {
		keys.WriteString(t.Key())
	}
	return keys.String()
}

// headed is what rows have that begin with one byte and go on alike.
type headed struct {
	rows  []Tree
	heads []set.Set
	rest  Tree
}

// mergeHeads makes one row of those that begin with one byte and go on alike.
func mergeHeads(rows []Tree) []Tree {
	var out []Tree
	var groups []headed
	places := store.New[string, int]()
	for _, r := range rows {
		head, rest, ok := splitHead(r)
		if !ok {
			out = append(out, r)
			continue
		}
		at := places.Find(rest.Key(), func() int {
			groups = append(groups, headed{rest: rest})
			return len(groups) - 1
		})
		groups[at].rows = append(groups[at].rows, r)
		groups[at].heads = append(groups[at].heads, head)
	}
	for _, g := range groups {
		if len(g.rows) == 1 {
			out = append(out, g.rows[0])
		} else {
			out = append(out, Then(Bytes(set.AnyOf(g.heads...)), g.rest))
		}
	}
	return out
}

func splitHead(t Tree) (set.Set, Tree, bool) {
	switch x := t.(type) {
	case oneByte:
		return x.in, Empty(), true
	case row:
		if head, ok := x.first.(oneByte); ok {
			return head.in, x.rest, true
		}
	}
	return nil, nil, false
}

// mergeBytes makes one set of all trees that are sets of bytes.
func mergeBytes(trees []Tree) []Tree {
	var out []Tree
	var sets []set.Set
	for _, t := range trees {
		if x, ok := t.(oneByte); ok {
			sets = append(sets, x.in)
		} else {
			out = append(out, t)
		}
	}
	if len(sets) > 0 {
		out = append(out, Bytes(set.AllOf(sets...)))
	}
	return out
}
