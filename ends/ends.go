// Package ends: the patterns that each state ends with.
package ends

import (
	"scour/api"
	"scour/trie"
)

// Table has the patterns that each state is. Those that it ends with are these and, by shorter, those of its endings: so none stands in it more than once, however many states end with it.
type Table struct {
	patterns [][]int // by state: the numbers of those that it is, the lesser first
	shorter  []int   // by state: the longest ending of it, but for itself, that is a pattern; 0, if none is
}

// New notes the patterns of a trie by their states.
func New(t *trie.Trie) *Table {
	e := &Table{patterns: make([][]int, t.Len()), shorter: make([]int, t.Len())}
	for i, state := range t.Ends() {
		e.patterns[state] = append(e.patterns[state], i)
	}
	// A state's FAIL is shorter than itself, so it is noted ahead of it.
	for s := 1; s < t.Len(); s++ {
		e.shorter[s] = e.longest(t.At(s).Fail)
	}
	return e
}

// longest tells the longest ending of a state, itself too, that is a pattern; 0, if none is.
func (e *Table) longest(state int) int {
	if len(e.patterns[state]) > 0 {
		return state
	}
	return e.shorter[state]
}

// Append adds to a list the patterns that a state ends with, as such that end behind so many bytes: the longer first, and of the same length the lesser number first.
func (e *Table) Append(list []api.Match, state, end int) []api.Match {
	for ; state != 0; state = e.shorter[state] {
		for _, i := range e.patterns[state] {
			list = append(list, api.Match{Pattern: i, End: end})
		}
	}
	return list
}
