// Package reader reads lists of patterns.
package reader

import (
	"slices"
	"strings"

	"munch/set"
	"munch/tree"
)

const (
	maxPatterns = 5
	maxNest     = 8
)

// NoPlace is the TooDeep of a list in which no bracket is too deep.
const NoPlace = -1

// List is what was read.
type List struct {
	Patterns []tree.Tree
	Weight   int
	TooDeep  int // the place of the first bracket that stands in too many others, or NoPlace
}

// piece is something that was read: what it means, and how heavy it is.
type piece struct {
	tree   tree.Tree
	weight int
}

// reader goes over the text from left to right, and steps over a byte only if a list can go on with it. So where a method fails, at is the place of the fault.
type reader struct {
	text    string
	at      int
	nest    int
	tooDeep int
	behind  map[byte]func(*reader, piece) (piece, bool)
}

// Read reads a list. If the text is none, it answers false and the place of the first byte that can't stand there, or the text's length if there should be more bytes.
func Read(text string) (List, int, bool) {
	r := &reader{text: text, tooDeep: NoPlace, behind: behindAtom()}
	list := List{}
	for {
		pattern, ok := r.pattern()
		if !ok {
			return List{}, r.at, false
		}
		list.Patterns = append(list.Patterns, pattern.tree)
		list.Weight += pattern.weight
		if r.ended() {
			list.TooDeep = r.tooDeep
			return list, 0, true
		}
		if len(list.Patterns) == maxPatterns || !r.take('\n') {
			return List{}, r.at, false
		}
	}
}

// behindAtom tells by its sign how to read on what may stand behind an atom.
func behindAtom() map[byte]func(*reader, piece) (piece, bool) {
	return map[byte]func(*reader, piece) (piece, bool){
		'*': (*reader).star,
		'+': (*reader).plus,
		'?': (*reader).question,
		'{': (*reader).counts,
	}
}

func (r *reader) ended() bool { return r.at == len(r.text) }

func (r *reader) sees(b byte) bool { return !r.ended() && r.text[r.at] == b }

// take steps over a byte, if it is b.
func (r *reader) take(b byte) bool {
	if !r.sees(b) {
		return false
	}
	r.at++
	return true
}

// takeWithin steps over a byte, if it lies between two others.
func (r *reader) takeWithin(from, to byte) (byte, bool) {
	if r.ended() || r.text[r.at] < from || r.text[r.at] > to {
		return 0, false
	}
	r.at++
	return r.text[r.at-1], true
}

func (r *reader) pattern() (piece, bool) { return r.parted('&', (*reader).part, tree.AllOf) }

func (r *reader) form() (piece, bool) { return r.parted('|', (*reader).row, tree.OneOf) }

// parted reads one thing or more with a sign between them.
func (r *reader) parted(sign byte, one func(*reader) (piece, bool), join func(...tree.Tree) tree.Tree) (piece, bool) {
	var trees []tree.Tree
	weight := 0
	for {
		p, ok := one(r)
		if !ok {
			return piece{}, false
		}
		trees = append(trees, p.tree)
		weight += p.weight
		if !r.take(sign) {
			return piece{join(trees...), weight}, true
		}
	}
}

func (r *reader) part() (piece, bool) {
	if !r.take('!') {
		return r.form()
	}
	p, ok := r.form()
	if !ok {
		return piece{}, false
	}
	return piece{tree.Not(p.tree), p.weight}, true
}

// row ends ahead of a byte with which no atom begins: whether it may stand there is for the caller to say.
func (r *reader) row() (piece, bool) {
	var pieces []tree.Tree
	weight := 0
	for r.seesAtom() {
		p, ok := r.piece()
		if !ok {
			return piece{}, false
		}
		pieces = append(pieces, p.tree)
		weight += p.weight
	}
	whole := tree.Empty()
	for _, p := range slices.Backward(pieces) {
		whole = tree.Then(p, whole)
	}
	return piece{whole, weight}, true
}

func (r *reader) seesAtom() bool {
	return !r.ended() && strings.IndexByte("\n|&!*+?{}])", r.text[r.at]) < 0
}

func (r *reader) piece() (piece, bool) {
	atom, ok := r.atom()
	if !ok || r.ended() {
		return atom, ok
	}
	read, ok := r.behind[r.text[r.at]]
	if !ok {
		return atom, true
	}
	r.at++
	return read(r, atom)
}

func (r *reader) star(atom piece) (piece, bool) {
	return piece{tree.Repeat(atom.tree, 0, tree.NoBound), atom.weight}, true
}

func (r *reader) plus(atom piece) (piece, bool) {
	return piece{tree.Repeat(atom.tree, 1, tree.NoBound), atom.weight}, true
}

func (r *reader) question(atom piece) (piece, bool) {
	return piece{tree.Repeat(atom.tree, 0, 1), atom.weight}, true
}

func (r *reader) counts(atom piece) (piece, bool) {
	from, ok := r.takeWithin('0', '9')
	if !ok || !r.take(',') {
		return piece{}, false
	}
	to, ok := r.takeWithin(max(from, '1'), '9')
	if !ok || !r.take('}') {
		return piece{}, false
	}
	least, most := int(from-'0'), int(to-'0')
	return piece{tree.Repeat(atom.tree, least, most), most * atom.weight}, true
}

func (r *reader) atom() (piece, bool) {
	first := r.text[r.at]
	switch first {
	case '(':
		return r.brackets()
	case '[':
		return r.spans()
	}
	r.at++
	switch first {
	case '.':
		return ofBytes(set.Span(0, 255)), true
	case '\\':
		return r.escaped()
	}
	return ofBytes(set.Span(first, first)), true
}

func ofBytes(in set.Set) piece { return piece{tree.Bytes(in), 1} }

func (r *reader) escaped() (piece, bool) {
	if r.ended() || r.sees('\n') {
		return piece{}, false
	}
	b := r.text[r.at]
	r.at++
	return ofBytes(set.Span(b, b)), true
}

func (r *reader) brackets() (piece, bool) {
	if r.nest >= maxNest && r.tooDeep == NoPlace {
		r.tooDeep = r.at
	}
	r.at++
	r.nest++
	inner, ok := r.form()
	if !ok || !r.take(')') {
		return piece{}, false
	}
	r.nest--
	return inner, true
}

func (r *reader) spans() (piece, bool) {
	r.at++
	outside := r.take('^')
	var spans []set.Set
	for !r.take(']') {
		span, ok := r.span()
		if !ok {
			return piece{}, false
		}
		spans = append(spans, span)
	}
	in := set.AnyOf(spans...)
	if outside {
		in = set.Outside(in)
	}
	return ofBytes(in), true
}

func (r *reader) span() (set.Set, bool) {
	from, ok := r.spanByte(0)
	if !ok {
		return nil, false
	}
	if !r.take('-') {
		return set.Span(from, from), true
	}
	to, ok := r.spanByte(from)
	return set.Span(from, to), ok
}

// spanByte reads a byte of a span that is not below least.
func (r *reader) spanByte(least byte) (byte, bool) {
	if r.take('\\') {
		return r.takeWithin(least, 255)
	}
	if r.ended() || strings.IndexByte("\n][^-", r.text[r.at]) >= 0 {
		return 0, false
	}
	return r.takeWithin(least, 255)
}
