// Package trie: the states of a list of patterns, and how one leads to another.
package trie

import (
	"bytes"
	"cmp"
	"slices"
)

// State is a beginning of patterns. State 0, the empty one, has neither parent nor last byte nor fail.
type State struct {
	Parent int
	Last   byte
	Fail   int
}

// Trie has the states of a list of patterns in the document's order, and of each pattern the state that it is.
//
// In that order the states (but 0) stand sorted by parent, then by last byte: find leans on it.
type Trie struct {
	states []State
	ends   []int
}

// New makes the trie of patterns. It keeps nothing of them.
func New(patterns [][]byte) *Trie {
	t := &Trie{states: make([]State, 1), ends: make([]int, len(patterns))}
	order := sorted(patterns)
	for length := 1; len(order) > 0; length++ {
		order = slices.DeleteFunc(order, func(i int) bool { return len(patterns[i]) < length })
		t.addLevel(patterns, order, length)
	}
	t.setFails()
	return t
}

// sorted tells the patterns' numbers, byte by byte the lesser pattern first.
func sorted(patterns [][]byte) []int {
	order := make([]int, len(patterns))
	for i := range order {
		order[i] = i
	}
	slices.SortFunc(order, func(a, b int) int { return bytes.Compare(patterns[a], patterns[b]) })
	return order
}

// addLevel adds the beginnings of one length. Until a pattern's last level, ends has the state of its beginning so far.
//
// As the order is that of the patterns, equal beginnings come one behind the other: it is enough to look at the newest state.
func (t *Trie) addLevel(patterns [][]byte, order []int, length int) {
	for _, i := range order {
		s := State{Parent: t.ends[i], Last: patterns[i][length-1]}
		newest := len(t.states) - 1
		if newest == 0 || compare(t.states[newest], s) != 0 {
			t.states = append(t.states, s)
			newest++
		}
		t.ends[i] = newest
	}
}

// setFails goes from the shorter states to the longer, for a state's fail is found by those of shorter ones.
func (t *Trie) setFails() {
	for i := 1; i < len(t.states); i++ {
		s := &t.states[i]
		// A state of one byte would find itself: its only lesser ending is the empty one.
		if s.Parent != 0 {
			s.Fail = t.Next(t.states[s.Parent].Fail, s.Last)
		}
	}
}

// compare sorts states by parent, then by last byte.
func compare(a, b State) int {
	return cmp.Or(cmp.Compare(a.Parent, b.Parent), cmp.Compare(a.Last, b.Last))
}

// find tells the state that is another with a byte behind it, and whether there is one.
func (t *Trie) find(parent int, b byte) (int, bool) {
	// State 0 is left out: it is nobody's child, but looks like one of its own.
	i, ok := slices.BinarySearchFunc(t.states[1:], State{Parent: parent, Last: b}, compare)
	return i + 1, ok
}

// Len tells how many states there are.
func (t *Trie) Len() int {
	return len(t.states)
}

// At tells a state, which must be there, by its number.
func (t *Trie) At(state int) State {
	return t.states[state]
}

// Ends tells the states that the patterns are, in the order of the patterns, in new memory.
func (t *Trie) Ends() []int {
	return slices.Clone(t.ends)
}

// Next tells NEXT of a state, which must be there, and a byte.
func (t *Trie) Next(from int, b byte) int {
	// The fails one behind the other are all endings that are states, the longest first.
	for {
		if to, ok := t.find(from, b); ok {
			return to
		}
		if from == 0 {
			return 0
		}
		from = t.states[from].Fail
	}
}

// Patterns spells the patterns, in their order, in new memory.
func (t *Trie) Patterns() [][]byte {
	list := make([][]byte, len(t.ends))
	for i, end := range t.ends {
		list[i] = t.spell(end)
	}
	return list
}

// spell tells the bytes of a state.
func (t *Trie) spell(at int) []byte {
	var b []byte
	for ; at != 0; at = t.states[at].Parent {
		b = append(b, t.states[at].Last)
	}
	slices.Reverse(b)
	return b
}
