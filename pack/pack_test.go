package pack

import (
	"container/heap"
	"slices"
	"testing"

	"scour/trie"
)

func trieOf(patterns ...string) *trie.Trie {
	var l [][]byte
	for _, p := range patterns {
		l = append(l, []byte(p))
	}
	return trie.New(l)
}

func TestTables(t *testing.T) {
	for _, k := range []struct {
		patterns []string
		classes  string
		offsets  []int
		cells    []Cell
	}{
		{nil, "", []int{0}, nil},
		{[]string{"\xff", "\x00"}, "\x00\xff", []int{0, 0, 0}, nil},
		{[]string{"he", "she", "hers"}, "ehrs", []int{0, 0, 0, 0, 3, 1, 3, 5},
			[]Cell{{}, {1, 3}, {2, 4}, {3, 5}, {4, 6}, {5, 7}, {6, 5}, {7, 4}}},
		{[]string{"ba", "bc"}, "abc", []int{0, 0, 0, 0}, []Cell{{}, {1, 2}, {}, {1, 3}}},
		{[]string{"aa", "ab", "ba"}, "ab", []int{0, 0, 6, 2, 7, 4},
			[]Cell{{}, {1, 3}, {1, 4}, {3, 3}, {3, 4}, {5, 3}, {5, 4}, {2, 5}, {4, 5}}},
		{[]string{"ba", "bd", "ab", "c"}, "abcd", []int{0, 1, 0, 0, 1, 4, 0},
			[]Cell{{}, {2, 5}, {4, 5}, {1, 4}, {2, 6}, {4, 6}, {5, 4}}},
	} {
		p := New(trieOf(k.patterns...))
		if string(p.Classes) != k.classes {
			t.Errorf("of %q: classes %q, want %q", k.patterns, p.Classes, k.classes)
		}
		if !slices.Equal(p.Offsets, k.offsets) {
			t.Errorf("of %q: offsets %d, want %d", k.patterns, p.Offsets, k.offsets)
		}
		if !slices.Equal(p.Cells, k.cells) {
			t.Errorf("of %q: cells %d, want %d", k.patterns, p.Cells, k.cells)
		}
	}
}

// next is NEXT as a table tells it: what is no exception is as of state 0.
func (p *Table) next(t *trie.Trie, state int, b byte) int {
	class := slices.Index(p.Classes, b) + 1
	if at := p.Offsets[state] + class; at < len(p.Cells) && p.Cells[at].State == state {
		return p.Cells[at].Next
	}
	return t.Next(0, b)
}

func TestTableTellsNext(t *testing.T) {
	for _, patterns := range [][]string{
		nil, {"a"}, {"he", "she", "hers"}, {"abab", "bab", "ab"}, {"abcabcabd", "bcab", "ca", "d"}, {"\x00\x00\xff", "\x00\xff\x00", "\xff"},
	} {
		m := trieOf(patterns...)
		p := New(m)
		for state := 1; state < m.Len(); state++ {
			for b := range 256 {
				if got, want := p.next(m, state, byte(b)), m.Next(state, byte(b)); got != want {
					t.Errorf("of %q: NEXT of %d and %q is %d, want %d", patterns, state, byte(b), got, want)
				}
			}
		}
	}
}

func TestRowsAreTakenInOrder(t *testing.T) {
	sized := func(state, n int) row { return row{state, make([]exception, n)} }
	want := []row{sized(5, 9), sized(7, 9), sized(1, 3), sized(2, 3), sized(9, 3), sized(3, 1), sized(4, 1), sized(8, 1)}
	all := &rows{}
	for _, i := range []int{3, 7, 0, 5, 2, 6, 1, 4} {
		heap.Push(all, want[i])
	}
	for _, w := range want {
		if got := heap.Pop(all).(row); got.state != w.state || len(got.exceptions) != len(w.exceptions) {
			t.Errorf("the row of state %d is taken, want that of %d", got.state, w.state)
		}
	}
	if all.Len() != 0 {
		t.Errorf("%d rows are left", all.Len())
	}
}
