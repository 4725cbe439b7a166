package munch_test

import (
	"regexp"
	"strconv"
	"strings"

	"munch/munch"
)

// This file reads tables a second time: by a regular expression, and with all edges looked through one by one.

type secondEdge struct{ from, to, state int }

type secondState struct {
	tag   int
	edges []secondEdge
}

type secondTable []secondState

var stateForm = regexp.MustCompile(`\A[-0-4](,[0-9a-f]{4}>[0-9]{4})*\z`)

// secondRead is P6, read again.
func secondRead(text string) (secondTable, munch.Errno, int) {
	if len(text) > 200000 {
		return nil, munch.ErrLong, 0
	}
	return secondReadAnyLength(text)
}

func secondReadAnyLength(text string) (secondTable, munch.Errno, int) {
	pieces := strings.Split(text, ";")
	var out secondTable
	for number, piece := range pieces {
		state, ok := secondReadState(piece)
		for _, e := range state.edges {
			ok = ok && e.state < len(pieces)
		}
		if !ok || number > 9998 {
			return nil, munch.ErrTable, number
		}
		out = append(out, state)
	}
	return out, munch.OK, 0
}

func secondReadState(piece string) (secondState, bool) {
	if !stateForm.MatchString(piece) {
		return secondState{}, false
	}
	parts := strings.Split(piece, ",")
	state := secondState{tag: strings.Index("01234", parts[0])}
	last := -1
	for _, part := range parts[1:] {
		from, _ := strconv.ParseInt(part[:2], 16, 0)
		to, _ := strconv.ParseInt(part[2:4], 16, 0)
		number, _ := strconv.Atoi(part[5:])
		if int(from) <= last || to < from {
			return secondState{}, false
		}
		last = int(to)
		state.edges = append(state.edges, secondEdge{int(from), int(to), number})
	}
	return state, true
}

// next answers a state's number, or -1.
func (s secondTable) next(at int, b int) int {
	for _, e := range s[at].edges {
		if e.from <= b && b <= e.to {
			return e.state
		}
	}
	return -1
}

// walk is P7, read again.
func (s secondTable) walk(w string) int {
	at := 0
	for i := range len(w) {
		if at = s.next(at, int(w[i])); at < 0 {
			return -1
		}
	}
	return s[at].tag
}

// ways answers for each state a shortest text that leads there, for those that can be come to.
func (s secondTable) ways() map[int]string {
	out := map[int]string{0: ""}
	queue := []int{0}
	for len(queue) > 0 {
		at := queue[0]
		queue = queue[1:]
		for b := range 256 {
			to := s.next(at, b)
			if _, met := out[to]; to >= 0 && !met {
				out[to] = out[at] + string([]byte{byte(b)})
				queue = append(queue, to)
			}
		}
	}
	return out
}

// lowBytes answers, rising, bytes among which is the lowest one of each span of bytes that good lists do not tell apart: 0, the bytes that stand for themselves, and those right above them.
func lowBytes(lists ...string) string {
	var in [257]bool
	in[0] = true
	for _, list := range lists {
		inSet := false
		for i := 0; i < len(list); i++ {
			switch c := list[i]; {
			case c == '\\':
				i++
				in[list[i]], in[int(list[i])+1] = true, true
			case c == '[' || c == ']':
				inSet = c == '['
			case c == '{' && !inSet:
				i += 4
			case inSet || strings.IndexByte("|&!*+?().\n", c) < 0:
				in[c], in[int(c)+1] = true, true
			}
		}
	}
	var out []byte
	for b := range 256 {
		if in[b] {
			out = append(out, byte(b))
		}
	}
	return string(out)
}

// shortTexts tells all texts of at most so many of the signs, the shortest first, and of these the lowest first, until it is answered false.
func shortTexts(signs string, most int, tell func(w string) bool) {
	layer := []string{""}
	for length := 0; ; length++ {
		var longer []string
		for _, w := range layer {
			if !tell(w) {
				return
			}
			for i := range len(signs) {
				longer = append(longer, w+signs[i:i+1])
			}
		}
		if length == most {
			return
		}
		layer = longer
	}
}

// asked keeps the tags that were asked for.
type asked struct {
	second secondTag
	tags   map[string]int
}

func asking(list string) asked { return asked{ready(list), map[string]int{}} }

func (a asked) tag(w string) int {
	tag, ok := a.tags[w]
	if !ok {
		tag = a.second.tag(w)
		a.tags[w] = tag
	}
	return tag
}
