package munch

import (
	"bytes"

	"munch/table"
)

// Lexer cuts a text that comes in pieces into tokens. Make it by New.
type Lexer struct {
	states table.Table
	stuck  bool   // at from
	came   int    // how many bytes have come
	from   int    // where the token begins that is looked for
	to     int    // where the longest one so far ends; from, if there is none
	best   int    // the state at to
	at     int    // the state to which one comes by all that has come behind from
	behind []byte // what has come behind to, to be gone over again when the token is told; nothing, if there is none
}

// New makes a lexer (P10).
func New(list string) (*Lexer, Errno, int) {
	states, fault, place := compile(list)
	if fault != OK {
		return nil, fault, place
	}
	return &Lexer{states: states}, OK, 0
}

// Feed takes a piece, and tells what is sure (P10).
func (x *Lexer) Feed(b string) ([]Token, Errno, int) {
	if !x.made() {
		return nil, OK, 0
	}
	return x.walk(b, false)
}

// Close tells the rest (P10).
func (x *Lexer) Close() ([]Token, Errno, int) {
	if !x.made() {
		return nil, OK, 0
	}
	tokens, fault, place := x.walk("", true)
	if fault == OK {
		*x = Lexer{states: x.states}
	}
	return tokens, fault, place
}

// made tells whether New has made x. The document says nothing of a lexer that is none, but a call must not panic.
func (x *Lexer) made() bool {
	return x != nil && (x.states != nil || x.stuck)
}

// walk goes on over the text from where the last call stopped, with b behind it. A token is sure once no byte leads on; behind the last piece, once no byte is left.
func (x *Lexer) walk(b string, last bool) ([]Token, Errno, int) {
	var tokens []Token
	text, next := append(x.behind, b...), len(x.behind)
	start := x.came - next // where text begins
	x.came += len(b)
	inVain := newVain(x.states)
	if x.stuck {
		goto stuck
	}

looking:
	for next < len(text) {
		x.at = x.states.Next(x.at, text[next])
		next++
		if x.states.Tag(x.at) != table.NoTag {
			x.to, x.best = start+next, x.at
		}
		if !x.states.GoesOn(x.at) || inVain.has(next, x.at) {
			goto telling
		}
	}
	if !last || x.from == x.came {
		x.keep(text, start)
		return tokens, OK, 0
	}

telling:
	if x.to == x.from {
		goto stuck
	}
	tokens = append(tokens, Token{Tag: x.states.Tag(x.best), From: x.from, To: x.to})
	inVain.add(x.best, text[:next], x.to-start)
	x.from, x.at, next = x.to, 0, x.to-start
	goto looking

stuck:
	*x = Lexer{stuck: true, from: x.from}
	return tokens, ErrStuck, x.from
}

// keep keeps of a text that begins at start what may have to be gone over again. As long as there is no token that is nothing: if none comes, the text is stuck.
func (x *Lexer) keep(text []byte, start int) {
	switch {
	case x.to == x.from:
		x.behind = nil
	case x.to > start:
		x.behind = bytes.Clone(text[x.to-start:]) // a part of text would hold all of it
	default:
		x.behind = text
	}
}
