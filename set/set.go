// Package set: sets of bytes. They are handed on as functions that tell whether a byte is in.
package set

import (
	"strconv"
	"strings"
)

// Set tells whether a byte is in.
type Set func(b byte) bool

// Span holds all bytes from one to another.
func Span(from, to byte) Set {
	return func(b byte) bool { return from <= b && b <= to }
}

// AnyOf holds the bytes that are in one of the sets or more: none, if there is no set.
func AnyOf(sets ...Set) Set {
	return func(b byte) bool {
		for _, in := range sets {
			if in(b) {
				return true
			}
		}
		return false
	}
}

// Outside holds the bytes that are not in a set.
func Outside(in Set) Set {
	return func(b byte) bool { return !in(b) }
}

// AllOf holds the bytes that are in each of the sets: every byte, if there is no set.
func AllOf(sets ...Set) Set {
	return func(b byte) bool {
		for _, in := range sets {
			if !in(b) {
				return false
			}
		}
		return true
	}
}

// Lay asks a set once for each byte and answers one that only looks it up: a set of sets would be gone through anew at every question.
func Lay(in Set) Set {
	var laid [256]bool
	for b := range laid {
		laid[b] = in(byte(b))
	}
	return func(b byte) bool { return laid[b] }
}

// Text tells the spans of a set, the lowest first, in base 16: the same text just for sets that hold the same bytes. It is empty for the empty set.
func Text(in Set) string {
	var spans []string
	for from := 0; from < 256; from++ {
		if !in(byte(from)) {
			continue
		}
		to := from
		for to < 255 && in(byte(to+1)) {
			to++
		}
		spans = append(spans, hex(from)+"-"+hex(to))
		from = to
	}
	return strings.Join(spans, ",")
}

func hex(b int) string { return strconv.FormatInt(int64(b), 16) }
