package munch

import "munch/table"

const wordBits = 64

// vain marks, by places of a text and states, where the walk was in vain: from there one comes to no tag. A walk that comes there again need not go on. Without that a long text could be gone over as often as it has tokens.
type vain struct {
	states table.Table
	width  int      // words a place
	marks  []uint64 // a bit for each state, place by place
}

func newVain(states table.Table) vain {
	return vain{states: states, width: (len(states) + wordBits - 1) / wordBits}
}

// add marks the way that goes over a text from a place on, and from a state there.
func (v *vain) add(at int, text []byte, from int) {
	for i := from; i < len(text); i++ {
		at = v.states.Next(at, text[i])
		if at == table.Nowhere {
			return
		}
		v.mark(i+1, at)
	}
}

func (v *vain) has(place, at int) bool {
	word, bit := v.bitOf(place, at)
	return word < len(v.marks) && v.marks[word]&bit != 0
}

func (v *vain) mark(place, at int) {
	word, bit := v.bitOf(place, at)
	if missing := word + 1 - len(v.marks); missing > 0 {
		v.marks = append(v.marks, make([]uint64, missing)...)
	}
	v.marks[word] |= bit
}

func (v *vain) bitOf(place, at int) (int, uint64) {
	return place*v.width + at/wordBits, 1 << (at % wordBits)
}
