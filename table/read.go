package table

import "strings"

const (
	maxStates = 9999
	edgeWidth = len(",hhhh>dddd")
	hexSigns  = "0123456789abcdef"
	digits    = "0123456789"
)

// Read answers the table that a text is, or the number of the first state that is wrong. (A text with too many states is wrong at the first one that is too many.)
func Read(text string) (Table, int, bool) {
	pieces := strings.Split(text, ";")
	out := make(Table, 0, min(len(pieces), maxStates))
	for number, piece := range pieces {
		if number == maxStates {
			return nil, number, false
		}
		state, ok := readState(piece, len(pieces))
		if !ok {
			return nil, number, false
		}
		out = append(out, state)
	}
	return out, 0, true
}

// readState takes how many states there are, so that no edge leads to one that is not there.
func readState(piece string, states int) (State, bool) {
	if piece == "" {
		return State{}, false
	}
	tag, ok := readTag(piece[0])
	if !ok || (len(piece)-1)%edgeWidth != 0 {
		return State{}, false
	}
	var edges []Edge
	above := -1 // the last edge's bytes end here
	for rest := piece[1:]; rest != ""; rest = rest[edgeWidth:] {
		e, ok := readEdge(rest[:edgeWidth])
		if !ok || int(e.From) <= above || e.State >= states {
			return State{}, false
		}
		above = int(e.To)
		edges = append(edges, e)
	}
	return State{tag, edges}, true
}

func readTag(sign byte) (int, bool) {
	switch {
	case sign == '-':
		return NoTag, true
	case '0' <= sign && sign <= '4':
		return int(sign - '0'), true
	}
	return 0, false
}

func readEdge(text string) (Edge, bool) {
	from, fromOK := readNumber(text[1:3], hexSigns)
	to, toOK := readNumber(text[3:5], hexSigns)
	state, stateOK := readNumber(text[6:], digits)
	if text[0] != ',' || text[5] != '>' || !fromOK || !toOK || !stateOK || to < from {
		return Edge{}, false
	}
	return Edge{byte(from), byte(to), state}, true
}

// readNumber takes only the signs it is given. (strconv would take capital letters, a plus and a minus, too.)
func readNumber(text, signs string) (int, bool) {
	number := 0
	for i := range len(text) {
		value := strings.IndexByte(signs, text[i])
		if value < 0 {
			return 0, false
		}
		number = number*len(signs) + value
	}
	return number, true
}
