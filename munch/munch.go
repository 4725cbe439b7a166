// Package munch: patterns, the least table of them, what tells two of them apart, and a lexer that reads in pieces: see DOC.md.
package munch

import (
	"sync"

	"munch/least"
	"munch/reader"
	"munch/table"
	"munch/tree"
)

const (
	maxList   = 80
	maxWeight = 10
	maxTable  = 200000
)

// Errno is what a call answers: OK or the reason for a refusal.
type Errno int

const (
	OK        Errno = 0
	ErrLong   Errno = 1 // a list, or a table, above its bound
	ErrText   Errno = 2 // no list
	ErrNest   Errno = 3 // too many brackets, one in another
	ErrWeight Errno = 4 // a list that is too heavy
	ErrTable  Errno = 5 // no table
	ErrStuck  Errno = 6 // a text that is stuck
)

// Token is a piece of a text: its tag, where it begins, where it ends.
type Token struct{ Tag, From, To int }

// Check tells whether a text is a list (P3).
func Check(list string) (Errno, int) {
	_, fault, place := read(list)
	return fault, place
}

// read answers the patterns of a list, or why there are none. The length comes first of all, so that what is read is never deep.
func read(list string) ([]tree.Tree, Errno, int) {
	if len(list) > maxList {
		return nil, ErrLong, 0
	}
	found, place, ok := reader.Read(list)
	switch {
	case !ok:
		return nil, ErrText, place
	case found.TooDeep != reader.NoPlace:
		return nil, ErrNest, found.TooDeep
	case found.Weight > maxWeight:
		return nil, ErrWeight, 0
	}
	return found.Patterns, OK, 0
}

// Tag tells the tag of a text (P4).
func Tag(list string, w string) (int, Errno, int) {
	patterns, fault, place := read(list)
	if fault != OK {
		return 0, fault, place
	}
	return firstThatFits(patterns, w), OK, 0
}

// firstThatFits asks all patterns at the same time. It waits for every one of them and takes the lowest number, so it makes no difference which one is ready first.
func firstThatFits(patterns []tree.Tree, w string) int {
	fits, others := make(chan int), make(chan int)
	var workers sync.WaitGroup
	for number, pattern := range patterns {
		workers.Add(1)
		go func() {
			defer workers.Done()
			answer := others
			if tree.Has(pattern, w) {
				answer = fits
			}
			answer <- number
		}()
	}
	tag := -1
	for range patterns {
		select {
		case number := <-fits:
			if tag < 0 || number < tag {
				tag = number
			}
		case <-others:
		}
	}
	workers.Wait()
	return tag
}

// Compile makes the least table of a list (P5).
func Compile(list string) (string, Errno, int) {
	states, fault, place := compile(list)
	if fault != OK {
		return "", fault, place
	}
	return states.Text(), OK, 0
}

func compile(list string) (table.Table, Errno, int) {
	patterns, fault, place := read(list)
	if fault != OK {
		return nil, fault, place
	}
	return least.Table(patterns), OK, 0
}

// CheckTable tells whether a text is a table (P6).
func CheckTable(table string) (Errno, int) {
	_, fault, place := readTable(table)
	return fault, place
}

func readTable(text string) (table.Table, Errno, int) {
	if len(text) > maxTable {
		return nil, ErrLong, 0
	}
	states, place, ok := table.Read(text)
	if !ok {
		return nil, ErrTable, place
	}
	return states, OK, 0
}

// Walk goes over a table (P7).
func Walk(table string, w string) (int, Errno, int) {
	states, fault, place := readTable(table)
	if fault != OK {
		return 0, fault, place
	}
	return states.Walk(w), OK, 0
}

// Differ tells what tells two lists apart (P8).
func Differ(a string, b string) (bool, string, Errno, int) {
	ofA, fault, place := compile(a)
	if fault != OK {
		return false, "", fault, place
	}
	ofB, fault, place := compile(b)
	if fault != OK {
		return false, "", fault, place
	}
	text, differ := table.Differ(ofA, ofB)
	return differ, text, OK, 0
}

// Ahead tells how far a lexer looks ahead (P11).
func Ahead(list string) (int, Errno, int) {
	states, fault, place := compile(list)
	if fault != OK {
		return 0, fault, place
	}
	return table.Ahead(states), OK, 0
}
