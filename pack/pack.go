// Package pack: the exceptions of a machine's states, packed into cells, and the step from state to state by them.
package pack

import (
	"container/heap"
	"slices"

	"scour/trie"
)

// Free stands in a free cell for its state. It is no state's number: so no state, not even 0, takes a free cell for its own.
const Free = -1

// Cell has a state, and the one that is its NEXT.
type Cell struct {
	State, Next int
}

// Table tells NEXT of each state and each of its exceptions: it stands in the cell at the state's offset and the byte's class together.
type Table struct {
	Classes []byte // the lesser first; the first one's class is 1
	Offsets []int
	Cells   []Cell // one for each offset and class together, free ones behind the last that is taken too
	Size    int    // how many there are up to the last one that is taken

	class [256]int // of each byte; 0, if it has none
	first []int    // by class: NEXT of state 0
}

// New packs the rows of a trie.
func New(t *trie.Trie) *Table {
	p := &Table{Classes: classes(t), Offsets: make([]int, t.Len())}
	left := rowsOf(t, p.Classes)
	for left.Len() > 0 {
		p.lay(heap.Pop(left).(row))
	}
	p.Size = len(p.Cells)
	p.reach(slices.Max(p.Offsets) + len(p.Classes))
	p.setFirst(t)
	return p
}

// classes tells the bytes that stand in patterns, the lesser first.
func classes(t *trie.Trie) []byte {
	var list []byte
	for s := 1; s < t.Len(); s++ {
		list = append(list, t.At(s).Last)
	}
	slices.Sort(list)
	return slices.Compact(list)
}

// lay packs a row at the least offset at which all its cells are free.
func (p *Table) lay(r row) {
	offset := 0
	for !p.fits(r, offset) {
		offset++
	}
	p.Offsets[r.state] = offset
	for _, e := range r.exceptions {
		p.take(offset+e.class, Cell{r.state, e.next})
	}
}

// fits tells whether all cells of a row are free at an offset; those behind the last one that is taken are.
func (p *Table) fits(r row, offset int) bool {
	for _, e := range r.exceptions {
		if at := offset + e.class; at < len(p.Cells) && p.Cells[at].State != Free {
			return false
		}
	}
	return true
}

// take puts something into a cell, behind the last one that is taken too.
func (p *Table) take(at int, c Cell) {
	p.reach(at)
	p.Cells[at] = c
}

// reach adds free cells till there is one with that number.
func (p *Table) reach(at int) {
	for len(p.Cells) <= at {
		p.Cells = append(p.Cells, Cell{State: Free})
	}
}

// setFirst notes each byte's class, and NEXT of state 0 by it. Bytes without a class have 0 for both, as they stand in no pattern.
func (p *Table) setFirst(t *trie.Trie) {
	p.first = make([]int, len(p.Classes)+1)
	for i, b := range p.Classes {
		p.class[b] = i + 1
		p.first[i+1] = t.Next(0, b)
	}
}
