package pack

import (
	"container/heap"

	"scour/trie"
)

// exception is a byte, by its class, for which a state's NEXT is not that of state 0.
type exception struct {
	class, next int
}

// row is a state with its exceptions, the lesser class first.
type row struct {
	state      int
	exceptions []exception
}

// rows is a heap: at its head is the row to be packed next.
type rows []row

// rowsOf makes a heap of the states that have exceptions.
func rowsOf(t *trie.Trie, classes []byte) *rows {
	all := &rows{}
	for s := range t.Len() {
		if list := exceptions(t, s, classes); len(list) > 0 {
			heap.Push(all, row{s, list})
		}
	}
	return all
}

func exceptions(t *trie.Trie, state int, classes []byte) []exception {
	var list []exception
	for i, b := range classes {
		if next := t.Next(state, b); next != t.Next(0, b) {
			list = append(list, exception{i + 1, next})
		}
	}
	return list
}

func (r rows) Len() int {
	return len(r)
}

// Less puts most exceptions first, and of as many the least state.
func (r rows) Less(i, j int) bool {
	if a, b := len(r[i].exceptions), len(r[j].exceptions); a != b {
		return a > b
	}
	return r[i].state < r[j].state
}

func (r rows) Swap(i, j int) {
	r[i], r[j] = r[j], r[i]
}

// Push is for package heap, which looks after the order.
func (r *rows) Push(x any) {
	*r = append(*r, x.(row))
}

// Pop is for package heap, which puts the head last ahead of it.
func (r *rows) Pop() any {
	last := len(*r) - 1
	x := (*r)[last]
	*r = (*r)[:last]
	return x
}
