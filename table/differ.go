package table

import (
	"slices"

	"munch/store"
)

// pair is where one comes in two tables by the same text.
type pair struct{ a, b int }

// visit is a pair and how it was come to first: by a byte from an earlier visit.
type visit struct {
	at     pair
	behind int
	by     byte
}

// Differ answers a text that has different tags by two tables: a shortest one, and of these the lowest. Pairs are met in the order of the lowest shortest texts that lead to them, so the first one whose tags differ tells.
func Differ(a, b Table) (string, bool) {
	met := store.New[pair, int]()
	var visits []visit
	note := func(v visit) {
		met.Find(v.at, func() int {
			visits = append(visits, v)
			return len(visits)
		})
	}
	note(visit{})
	for i := 0; i < len(visits); i++ {
		at := visits[i].at
		if a.Tag(at.a) != b.Tag(at.b) {
			return leading(visits, i), true
		}
		for by := range 256 {
			to := pair{a.Next(at.a, byte(by)), b.Next(at.b, byte(by))}
			note(visit{to, i, byte(by)})
		}
	}
	return "", false
}

// leading answers the text that led to a visit.
func leading(visits []visit, at int) string {
	var text []byte
	for ; at > 0; at = visits[at].behind {
		text = append(text, visits[at].by)
	}
	slices.Reverse(text)
	return string(text)
}
