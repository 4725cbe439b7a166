// Package table: tables of states and edges, their texts, and what can be asked of them.
package table

import (
	"slices"
	"strconv"
	"strings"
)

const (
	// NoTag is the tag of a state that has none.
	NoTag = -1
	// Nowhere is where one comes that cannot go on.
	Nowhere = -1
)

// Edge leads by the bytes from one to another to a state.
type Edge struct {
	From, To byte
	State    int
}

// State has a tag, and edges whose bytes rise.
type State struct {
	Tag   int
	Edges []Edge
}

// Table is a table's states, by their numbers. One starts from state 0.
type Table []State

// Next answers the state to which a byte leads, or Nowhere. From Nowhere every byte leads there.
func (t Table) Next(at int, b byte) int {
	if at == Nowhere {
		return Nowhere
	}
	edges := t[at].Edges
	i, found := slices.BinarySearchFunc(edges, b, sideOf)
	if !found {
		return Nowhere
	}
	return edges[i].State
}

// sideOf tells whether an edge's bytes lie below b, hold it, or lie above it.
func sideOf(e Edge, b byte) int {
	switch {
	case e.To < b:
		return -1
	case e.From > b:
		return 1
	}
	return 0
}

// Tag answers the tag of a state, NoTag for Nowhere.
func (t Table) Tag(at int) int {
	if at == Nowhere {
		return NoTag
	}
	return t[at].Tag
}

// GoesOn tells whether there is a byte that leads on from a state. From Nowhere there is none.
func (t Table) GoesOn(at int) bool {
	return at != Nowhere && len(t[at].Edges) > 0
}

// Walk answers the tag to which one comes from state 0 by the bytes of a text.
func (t Table) Walk(text string) int {
	at := 0
	for i := 0; i < len(text) && at != Nowhere; i++ {
		at = t.Next(at, text[i])
	}
	return t.Tag(at)
}

// Text writes the table down.
func (t Table) Text() string {
	var out strings.Builder
	for number, state := range t {
		if number > 0 {
			out.WriteByte(';')
		}
		state.write(&out)
	}
	return out.String()
}

func (s State) write(out *strings.Builder) {
	if s.Tag == NoTag {
		out.WriteByte('-')
	} else {
		out.WriteString(strconv.Itoa(s.Tag))
	}
	for _, e := range s.Edges {
		out.WriteByte(',')
		out.WriteString(padded(int(e.From), 16, 2))
		out.WriteString(padded(int(e.To), 16, 2))
		out.WriteByte('>')
		out.WriteString(padded(e.State, 10, 4))
	}
}

// padded writes a number with at least so many signs.
func padded(number, base, width int) string {
	signs := strconv.FormatInt(int64(number), base)
	return strings.Repeat("0", max(width-len(signs), 0)) + signs
}
