package scour_test

import (
	"slices"
	"strings"
)

// What a file is, by the document's words alone, as slowly as they say it.

// classes tells the CLASSES: the first one's class is 1.
func (m model) classes() []byte {
	all := strings.Join(m.states, "")
	var list []byte
	for b := range 256 {
		if strings.IndexByte(all, byte(b)) >= 0 {
			list = append(list, byte(b))
		}
	}
	return list
}

// fail is FAIL: the longest ending of the state, but for itself, that is a state.
func (m model) fail(state int) int {
	ending := m.states[state][1:]
	for {
		if n, ok := m.number[ending]; ok {
			return n
		}
		ending = ending[1:]
	}
}

// exceptions tells NEXT of each of a state's EXCEPTIONS, by class.
func (m model) exceptions(state int, classes []byte) map[int]int {
	next := map[int]int{}
	for i, b := range classes {
		if n := m.next(state, b); n != m.next(0, b) {
			next[i+1] = n
		}
	}
	return next
}

type cell struct {
	state, next int
}

// packing is how the ROWS of a model are packed: each state's offset, and what is in the cells that are taken.
type packing struct {
	offsets []int
	cells   map[int]cell
}

func (m model) packed() packing {
	p := packing{make([]int, len(m.states)), map[int]cell{}}
	left := map[int]map[int]int{}
	classes := m.classes()
	for state := range m.states {
		if row := m.exceptions(state, classes); len(row) > 0 {
			left[state] = row
		}
	}
	for len(left) > 0 {
		state := mostExceptions(left)
		p.lay(state, left[state])
		delete(left, state)
	}
	return p
}

// mostExceptions looks at all rows that are left for the one to be packed next.
func mostExceptions(left map[int]map[int]int) int {
	first := -1
	for state, row := range left {
		if first < 0 || len(row) > len(left[first]) || len(row) == len(left[first]) && state < first {
			first = state
		}
	}
	return first
}

func (p packing) lay(state int, row map[int]int) {
	for !p.free(p.offsets[state], row) {
		p.offsets[state]++
	}
	for class, next := range row {
		p.cells[p.offsets[state]+class] = cell{state, next}
	}
}

func (p packing) free(offset int, row map[int]int) bool {
	for class := range row {
		if _, taken := p.cells[offset+class]; taken {
			return false
		}
	}
	return true
}

// size tells how many cells there are, up to the last one that is taken.
func (p packing) size() int {
	size := 0
	for at := range p.cells {
		size = max(size, at+1)
	}
	return size
}

// number is a NUMBER in a file.
func number(n int) []byte {
	b := []byte{byte(n % 128)}
	for n /= 128; n > 0; n /= 128 {
		b[len(b)-1] += 128
		b = append(b, byte(n%128))
	}
	return b
}

// sum is the SUM: all bits and 32 noughts behind them, divided as one learns it at school.
func sum(b []byte) []byte {
	var bits []byte
	for _, c := range b {
		for i := range 8 {
			bits = append(bits, c>>(7-i)&1)
		}
	}
	bits = append(bits, make([]byte, 32)...)
	for len(bits) > 32 {
		if bits[0] == 1 {
			for _, power := range []int{32, 22, 2, 1, 0} {
				bits[32-power] ^= 1
			}
		}
		bits = bits[1:]
	}
	left := make([]byte, 4)
	for i, bit := range bits {
		left[i/8] |= bit << (7 - i%8)
	}
	return left
}

// fileByWords is the file of patterns.
func fileByWords(patterns []string) []byte {
	m := modelOf(patterns)
	p := m.packed()
	b := slices.Concat([]byte("SCR\x01"), number(len(m.classes())), m.classes(), number(len(m.states)))
	for state, s := range m.states {
		if state > 0 {
			last := len(s) - 1
			b = slices.Concat(b, number(m.number[s[:last]]), []byte{s[last]}, number(m.fail(state)))
		}
	}
	b = append(b, number(len(patterns))...)
	for _, pattern := range patterns {
		b = append(b, number(m.number[pattern])...)
	}
	for _, offset := range p.offsets {
		b = append(b, number(offset)...)
	}
	b = append(b, number(p.size())...)
	for at := range p.size() {
		if c, taken := p.cells[at]; taken {
			b = slices.Concat(b, number(c.state+1), number(c.next))
		} else {
			b = append(b, 0)
		}
	}
	return append(b, sum(b)...)
}
