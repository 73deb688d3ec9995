// Package pack: the exceptions of a machine's states, packed into cells.
package pack

import (
	"container/heap"
	"slices"

	"scour/trie"
)

// Cell has a state, and the one that is its NEXT. A free cell has state 0, which has no exceptions and so no cells.
type Cell struct {
	State, Next int
}

// Table tells NEXT of each state and each of its exceptions: it stands in the cell at the state's offset and the byte's class together.
type Table struct {
	Classes []byte // the lesser first; the first one's class is 1
	Offsets []int
	Cells   []Cell // up to the last one that is taken
}

// New packs the rows of a trie.
func New(t *trie.Trie) *Table {
	p := &Table{Classes: classes(t), Offsets: make([]int, t.Len())}
	left := rowsOf(t, p.Classes)
	for left.Len() > 0 {
		p.lay(heap.Pop(left).(row))
	}
	return p
}

// classes tells the bytes that stand in patterns, the lesser first.
func classes(t *trie.Trie) []byte {
	var list []byte
	for s := 1; s < t.Len(); s++ {
		list = append(list, t.At(s).Last)
	}
	slices.Sort(list)
	return slices.Compact(list)
}

// lay packs a row at the least offset at which all its cells are free.
func (p *Table) lay(r row) {
	offset := 0
	for !p.fits(r, offset) {
		offset++
	}
	p.Offsets[r.state] = offset
	for _, e := range r.exceptions {
		p.take(offset+e.class, Cell{r.state, e.next})
	}
}

// fits tells whether all cells of a row are free at an offset; those behind the last one that is taken are.
func (p *Table) fits(r row, offset int) bool {
	for _, e := range r.exceptions {
		if at := offset + e.class; at < len(p.Cells) && p.Cells[at].State != 0 {
			return false
		}
	}
	return true
}

// take puts something into a cell, behind the last one that is taken too.
func (p *Table) take(at int, c Cell) {
	for len(p.Cells) <= at {
		p.Cells = append(p.Cells, Cell{})
	}
	p.Cells[at] = c
}
