package munch

import (
	"testing"

	"munch/table"
)

// ring is a table of so many states, in which a leads from each to the next one, and b goes nowhere.
func ring(count int) table.Table {
	out := make(table.Table, count)
	for i := range out {
		out[i] = table.State{Tag: table.NoTag, Edges: []table.Edge{{From: 'a', To: 'a', State: (i + 1) % count}}}
	}
	return out
}

func TestVainMarksOneWayAlone(t *testing.T) {
	for _, count := range []int{1, 2, 63, 64, 65, 127, 128, 129, 1000} {
		v := newVain(ring(count))
		in := map[[2]int]bool{}
		for _, c := range []struct {
			at, from int
			text     string
		}{{0, 0, ""}, {0, 0, "b"}, {0, 2, "aaaaaaab"}, {count - 1, 5, "bbbbbaaaaa"}, {count / 2, 1, "aaaaaabaaaa"}, {count / 3, 9, "aaaaaaaaa"}} {
			v.add(c.at, []byte(c.text), c.from)
			at := c.at
			for i := c.from; i < len(c.text) && c.text[i] == 'a'; i++ {
				at = (at + 1) % count
				in[[2]int{i + 1, at}] = true
			}
		}
		for place := range 20 {
			for at := range count {
				if got, want := v.has(place, at), in[[2]int{place, at}]; got != want {
					t.Fatalf("of %d states, state %d at %d is marked: %v, want %v", count, at, place, got, want)
				}
			}
		}
	}
}
