package table

// Endless is what Ahead answers if there is no greatest number.
const Endless = -1

// Ahead answers how many bytes at most come behind the end of a token until it is sure, for a least table. A token that ends in a state without edges is sure at once. Any other one is sure when one cannot go on, and no state that was come to since its end has a tag, or the token would be longer. So the most bytes are the steps of the longest way of that kind.
func Ahead(t Table) int {
	stops := t.stopping()
	var layer []int
	for _, s := range t.comeTo() {
		if t[s].Tag != NoTag && t.GoesOn(s) && stops[s] {
			layer = append(layer, s)
		}
	}
	for steps := 0; steps <= len(t); steps++ {
		if len(layer) == 0 {
			return steps
		}
		layer = t.onward(layer, stops)
	}
	return Endless // a way with more steps than there are states goes round, and may go round again
}

// comeTo answers the states to which an edge leads. Of a least table these are all, but for state 0 if only the empty text leads there: a token is not empty.
func (t Table) comeTo() []int {
	met := make([]bool, len(t))
	for _, state := range t {
		for _, e := range state.Edges {
			met[e.State] = true
		}
	}
	return numbersOf(met)
}

// stopping tells for each state whether one can come from it, over states without a tag alone, to where one cannot go on.
func (t Table) stopping() []bool {
	stops := make([]bool, len(t))
	for again := true; again; {
		again = false
		for s, state := range t {
			if !stops[s] && (state.hasGap() || len(t.onward([]int{s}, stops)) > 0) {
				stops[s], again = true, true
			}
		}
	}
	return stops
}

// hasGap tells whether there is a byte by which one cannot go on.
func (s State) hasGap() bool {
	held := 0
	for _, e := range s.Edges {
		held += int(e.To) - int(e.From) + 1
	}
	return held < 256
}

// onward answers the states to which one edge leads from a layer, those alone that have no tag and stop.
func (t Table) onward(layer []int, stops []bool) []int {
	met := make([]bool, len(t))
	for _, s := range layer {
		for _, e := range t[s].Edges {
			if stops[e.State] && t[e.State].Tag == NoTag {
				met[e.State] = true
			}
		}
	}
	return numbersOf(met)
}

func numbersOf(met []bool) []int {
	var out []int
	for number, is := range met {
		if is {
			out = append(out, number)
		}
	}
	return out
}
