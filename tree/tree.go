// Package tree: patterns as trees. A tree says which texts are its words, and which tree holds what is left of them behind a byte.
package tree

import (
	"strconv"

	"munch/set"
)

// NoBound, as the most of Repeat, means any number.
const NoBound = -1

// Tree is a pattern, or something a pattern is made of.
type Tree interface {
	// HasEmpty tells whether the empty text is a word.
	HasEmpty() bool
	// Behind answers the tree of what stands behind b in the words that begin with b.
	Behind(b byte) Tree
	// Key is the same text just for trees of the same form. (Trees hold functions, so they can't be held against each other.)
	Key() string
	// eachSet tells the sets of bytes in the tree. Behind makes only trees that tell apart no bytes which these do not.
	eachSet(tell func(set.Set))
}

const (
	nothingKey    = "<>"  // of OneOf(): no text
	everythingKey = "&<>" // of AllOf(): every text
	emptyKey      = "()"  // of Empty(): the empty text
	anyByteKey    = "[0-ff]"
)

type empty struct{}

// Empty answers the tree whose only word is the empty text.
func Empty() Tree { return empty{} }

func (empty) HasEmpty() bool        { return true }
func (empty) Behind(byte) Tree      { return OneOf() }
func (empty) Key() string           { return emptyKey }
func (empty) eachSet(func(set.Set)) {}

type oneByte struct {
	in  set.Set
	key string
}

// Bytes answers the tree whose words are the bytes of a set.
func Bytes(in set.Set) Tree {
	laid := set.Lay(in)
	spans := set.Text(laid)
	if spans == "" {
		return OneOf()
	}
	return oneByte{laid, "[" + spans + "]"}
}

func (t oneByte) HasEmpty() bool { return false }

func (t oneByte) Behind(b byte) Tree {
	if t.in(b) {
		return Empty()
	}
	return OneOf()
}

func (t oneByte) Key() string                { return t.key }
func (t oneByte) eachSet(tell func(set.Set)) { tell(t.in) }

type row struct {
	first, rest Tree
	key         string
}

// Then answers the tree whose words are a word of first and a word of rest behind it. Rows always lean to the right, so that one row has one form.
func Then(first, rest Tree) Tree {
	switch {
	case first.Key() == nothingKey || rest.Key() == nothingKey:
		return OneOf()
	case first.Key() == emptyKey:
		return rest
	case rest.Key() == emptyKey:
		return first
	}
	if left, ok := first.(row); ok {
		return Then(left.first, Then(left.rest, rest))
	}
	return row{first, rest, "(" + first.Key() + rest.Key() + ")"}
}

func (t row) HasEmpty() bool { return t.first.HasEmpty() && t.rest.HasEmpty() }

func (t row) Behind(b byte) Tree {
	left := spread(t.first.Behind(b), t.rest)
	if !t.first.HasEmpty() {
		return left
	}
	return OneOf(left, t.rest.Behind(b))
}

func (t row) Key() string { return t.key }

func (t row) eachSet(tell func(set.Set)) {
	t.first.eachSet(tell)
	t.rest.eachSet(tell)
}

// spread is Then, but it puts rest behind each row of a choice by itself: so the trees that Behind leads to are choices of few rows, and there are few of them.
func spread(first, rest Tree) Tree {
	c, ok := first.(choice)
	if !ok {
		return Then(first, rest)
	}
	rows := make([]Tree, len(c.kids))
	for i, kid := range c.kids {
		rows[i] = Then(kid, rest)
	}
	return OneOf(rows...)
}

type repeat struct {
	body        Tree
	least, most int
	key         string
}

// Repeat answers the tree whose words are least to most words of body, one behind the other.
func Repeat(body Tree, least, most int) Tree {
	if body.HasEmpty() {
		least = 0 // the missing ones may be empty
	}
	switch {
	case most == 0, body.Key() == emptyKey, body.Key() == nothingKey && least == 0:
		return Empty()
	case body.Key() == nothingKey, endless(body), most == 1 && (least == 1 || body.HasEmpty()):
		return body
	case least == 0 && most == NoBound && body.Key() == anyByteKey:
		return AllOf()
	}
	counts := strconv.Itoa(least) + "," + strconv.Itoa(most)
	return repeat{body, least, most, "{" + counts + ":" + body.Key() + "}"}
}

// endless tells whether words of the tree, one behind the other, are again a word of it, and the empty text is one.
func endless(t Tree) bool {
	if t.Key() == everythingKey {
		return true
	}
	r, ok := t.(repeat)
	return ok && r.least == 0 && r.most == NoBound
}

func (t repeat) HasEmpty() bool { return t.least == 0 }

// Behind holds for a body with the empty text, too: words of it that are empty ahead of the first byte may as well stand at the end.
func (t repeat) Behind(b byte) Tree {
	most := t.most
	if most != NoBound {
		most--
	}
	return spread(t.body.Behind(b), Repeat(t.body, max(t.least-1, 0), most))
}

func (t repeat) Key() string                { return t.key }
func (t repeat) eachSet(tell func(set.Set)) { t.body.eachSet(tell) }

type not struct {
	body Tree
	key  string
}

// Not answers the tree whose words are all texts that are no words of body.
func Not(body Tree) Tree {
	switch body.Key() {
	case nothingKey:
		return AllOf()
	case everythingKey:
		return OneOf()
	}
	if n, ok := body.(not); ok {
		return n.body
	}
	return not{body, "!" + body.Key()}
}

func (t not) HasEmpty() bool             { return !t.body.HasEmpty() }
func (t not) Behind(b byte) Tree         { return Not(t.body.Behind(b)) }
func (t not) Key() string                { return t.key }
func (t not) eachSet(tell func(set.Set)) { t.body.eachSet(tell) }
