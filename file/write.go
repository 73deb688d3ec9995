// Package file: a machine as the bytes of a file, and the patterns out of such bytes.
package file

import (
	"scour/pack"
	"scour/trie"
)

const (
	magic   = "SCR"
	version = 1
)

// writer has the bytes that are written so far.
type writer struct {
	b []byte
}

// Write tells the file of a machine, in new memory.
func Write(t *trie.Trie, p *pack.Table) []byte {
	w := &writer{b: append([]byte(magic), version)}
	w.classes(p.Classes)
	w.states(t)
	w.patterns(t.Ends())
	w.offsets(p.Offsets)
	w.cells(p.Cells[:p.Size])
	return append(w.b, seal(w.b)...)
}

// number writes a NUMBER: seven bits a byte, the lowest first.
func (w *writer) number(n int) {
	for ; n >= 128; n >>= 7 {
		w.b = append(w.b, byte(n)|128)
	}
	w.b = append(w.b, byte(n))
}

func (w *writer) classes(classes []byte) {
	w.number(len(classes))
	w.b = append(w.b, classes...)
}

func (w *writer) states(t *trie.Trie) {
	w.number(t.Len())
	for i := 1; i < t.Len(); i++ {
		s := t.At(i)
		w.number(s.Parent)
		w.b = append(w.b, s.Last)
		w.number(s.Fail)
	}
}

func (w *writer) patterns(ends []int) {
	w.number(len(ends))
	for _, end := range ends {
		w.number(end)
	}
}

// offsets are as many as there are states, so their number isn't written.
func (w *writer) offsets(offsets []int) {
	for _, offset := range offsets {
		w.number(offset)
	}
}

func (w *writer) cells(cells []pack.Cell) {
	w.number(len(cells))
	for _, c := range cells {
		if c.State == pack.Free {
			w.number(0)
			continue
		}
		w.number(c.State + 1)
		w.number(c.Next)
	}
}
