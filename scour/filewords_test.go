package scour_test

import (
	"slices"
	"strings"
)

// What a file is, by the document's words alone, as slowly as they say it.

// classes tells the CLASSES: the first one's class is 1.
func (m model) classes() []byte {
	all := strings.Join(m.states, "")
	var list []byte
	for b := range 256 {
		if strings.IndexByte(all, byte(b)) >= 0 {
			list = append(list, byte(b))
		}
	}
	return list
}

// fail is FAIL: the longest ending of the state, but for itself, that is a state.
func (m model) fail(state int) int {
	ending := m.states[state][1:]
	for {
		if n, ok := m.number[ending]; ok {
			return n
		}
		ending = ending[1:]
	}
}

// exceptions tells NEXT of each of a state's EXCEPTIONS, by class.
func (m model) exceptions(state int, classes []byte) map[int]int {
	next := map[int]int{}
	for i, b := range classes {
		if n := m.next(state, b); n != m.next(0, b) {
			next[i+1] = n
		}
	}
	return next
}

// cell is one as it is written: its mark is one more than its state's number. A free one is all noughts.
type cell struct {
	mark, next int
}

// packing is how the ROWS of a model are packed: each state's offset, and what is in the cells that are taken.
type packing struct {
	offsets []int
	cells   map[int]cell
}

func (m model) packed(classes []byte) packing {
	p := packing{make([]int, len(m.states)), map[int]cell{}}
	left := map[int]map[int]int{}
	for state := range m.states {
		if row := m.exceptions(state, classes); len(row) > 0 {
			left[state] = row
		}
	}
	for len(left) > 0 {
		state := mostExceptions(left)
		p.lay(state, left[state])
		delete(left, state)
	}
	return p
}

// mostExceptions looks at all rows that are left for the one to be packed next.
func mostExceptions(left map[int]map[int]int) int {
	first := -1
	for state, row := range left {
		if first < 0 || len(row) > len(left[first]) || len(row) == len(left[first]) && state < first {
			first = state
		}
	}
	return first
}

func (p packing) lay(state int, row map[int]int) {
	for !p.free(p.offsets[state], row) {
		p.offsets[state]++
	}
	for class, next := range row {
		p.cells[p.offsets[state]+class] = cell{state + 1, next}
	}
}

func (p packing) free(offset int, row map[int]int) bool {
	for class := range row {
		if _, taken := p.cells[offset+class]; taken {
			return false
		}
	}
	return true
}

// size tells how many cells there are, up to the last one that is taken.
func (p packing) size() int {
	size := 0
	for at := range p.cells {
		size = max(size, at+1)
	}
	return size
}

// number is a NUMBER in a file.
func number(n int) []byte {
	b := []byte{byte(n % 128)}
	for n /= 128; n > 0; n /= 128 {
		b[len(b)-1] += 128
		b = append(b, byte(n%128))
	}
	return b
}

// sum is the SUM: all bits and 32 noughts behind them, divided as one learns it at school.
func sum(b []byte) []byte {
	bits := make([]byte, 0, 8*len(b)+32)
	for _, c := range b {
		for i := range 8 {
			bits = append(bits, c>>(7-i)&1)
		}
	}
	bits = append(bits, make([]byte, 32)...)
	for len(bits) > 32 {
		if bits[0] == 1 {
			for _, power := range []int{32, 22, 2, 1, 0} {
				bits[32-power] ^= 1
			}
		}
		bits = bits[1:]
	}
	left := make([]byte, 4)
	for i, bit := range bits {
		left[i/8] |= bit << (7 - i%8)
	}
	return left
}

// sealed is bytes with their SUM behind them.
func sealed(b []byte) []byte {
	return slices.Concat(b, sum(b))
}

// entry is what a file has of a state.
type entry struct {
	parent int
	last   byte
	fail   int
}

// draft is a file in its parts, ahead of being written.
type draft struct {
	classes  []byte
	states   []entry // but 0
	patterns []int
	offsets  []int
	cells    []cell
}

// draft makes the file of patterns out of a model's states and of classes.
func (m model) draft(patterns []string, classes []byte) draft {
	p := m.packed(classes)
	d := draft{classes: classes, offsets: p.offsets, cells: make([]cell, p.size())}
	for state, s := range m.states {
		if state > 0 {
			last := len(s) - 1
			d.states = append(d.states, entry{m.number[s[:last]], s[last], m.fail(state)})
		}
	}
	for _, pattern := range patterns {
		d.patterns = append(d.patterns, m.number[pattern])
	}
	for at, c := range p.cells {
		d.cells[at] = c
	}
	return d
}

func draftOf(patterns []string) draft {
	m := modelOf(patterns)
	return m.draft(patterns, m.classes())
}

// piece is a NUMBER of a file, or a byte.
type piece struct {
	b        []byte
	isNumber bool
}

// pieces tells all that stands between the head and the sum.
func (d draft) pieces() []piece {
	var l []piece
	addByte := func(b byte) { l = append(l, piece{[]byte{b}, false}) }
	addNumber := func(n int) { l = append(l, piece{number(n), true}) }
	addNumber(len(d.classes))
	for _, b := range d.classes {
		addByte(b)
	}
	addNumber(len(d.states) + 1)
	for _, e := range d.states {
		addNumber(e.parent)
		addByte(e.last)
		addNumber(e.fail)
	}
	addNumber(len(d.patterns))
	for _, state := range d.patterns {
		addNumber(state)
	}
	for _, offset := range d.offsets {
		addNumber(offset)
	}
	addNumber(len(d.cells))
	for _, c := range d.cells {
		addNumber(c.mark)
		if c.mark > 0 {
			addNumber(c.next)
		}
	}
	return l
}

// head is what a file begins with.
const head = "SCR\x01"

// body is pieces as a file has them, ahead of the sum.
func body(pieces []piece) []byte {
	b := []byte(head)
	for _, p := range pieces {
		b = append(b, p.b...)
	}
	return b
}

func (d draft) file() []byte {
	return sealed(body(d.pieces()))
}

// fileByWords is the file of patterns.
func fileByWords(patterns []string) []byte {
	return draftOf(patterns).file()
}
