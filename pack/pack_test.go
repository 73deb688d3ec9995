package pack

import (
	"container/heap"
	"slices"
	"testing"

	"scour/trie"
)

func trieOf(patterns ...string) *trie.Trie {
	var l [][]byte
	for _, p := range patterns {
		l = append(l, []byte(p))
	}
	return trie.New(l)
}

func TestTables(t *testing.T) {
	free := Cell{State: Free}
	for _, k := range []struct {
		patterns []string
		classes  string
		offsets  []int
		cells    []Cell
	}{
		{nil, "", []int{0}, nil},
		{[]string{"\xff", "\x00"}, "\x00\xff", []int{0, 0, 0}, nil},
		{[]string{"he", "she", "hers"}, "ehrs", []int{0, 0, 0, 0, 3, 1, 3, 5},
			[]Cell{free, {1, 3}, {2, 4}, {3, 5}, {4, 6}, {5, 7}, {6, 5}, {7, 4}}},
		{[]string{"ba", "bc"}, "abc", []int{0, 0, 0, 0}, []Cell{free, {1, 2}, free, {1, 3}}},
		{[]string{"aa", "ab", "ba"}, "ab", []int{0, 0, 6, 2, 7, 4},
			[]Cell{free, {1, 3}, {1, 4}, {3, 3}, {3, 4}, {5, 3}, {5, 4}, {2, 5}, {4, 5}}},
		{[]string{"ba", "bd", "ab", "c"}, "abcd", []int{0, 1, 0, 0, 1, 4, 0},
			[]Cell{free, {2, 5}, {4, 5}, {1, 4}, {2, 6}, {4, 6}, {5, 4}}},
	} {
		p := New(trieOf(k.patterns...))
		if string(p.Classes) != k.classes {
			t.Errorf("of %q: classes %q, want %q", k.patterns, p.Classes, k.classes)
		}
		if !slices.Equal(p.Offsets, k.offsets) {
			t.Errorf("of %q: offsets %d, want %d", k.patterns, p.Offsets, k.offsets)
		}
		if got := p.Cells[:p.Size]; !slices.Equal(got, k.cells) {
			t.Errorf("of %q: cells %d, want %d", k.patterns, got, k.cells)
		}
		for _, c := range p.Cells[p.Size:] {
			if c != free {
				t.Errorf("of %q: behind the last cell that is taken there is %d", k.patterns, c)
			}
		}
	}
}

func fewLists() [][]string {
	return [][]string{
		nil, {"a"}, {"\x00"}, {"\xff"}, {"he", "she", "hers"}, {"ba", "bd", "ab", "c"}, {"abab", "bab", "ab"}, {"abcabcabd", "bcab", "ca", "d"}, {"\x00\x00\xff", "\x00\xff\x00", "\xff"},
	}
}

func TestEachOffsetAndClassHaveACell(t *testing.T) {
	for _, patterns := range fewLists() {
		p := New(trieOf(patterns...))
		for state, offset := range p.Offsets {
			if last := offset + len(p.Classes); last >= len(p.Cells) {
				t.Errorf("of %q: state %d may look at cell %d, but there are %d", patterns, state, last, len(p.Cells))
			}
		}
	}
}

func TestStepTellsNext(t *testing.T) {
	for _, patterns := range fewLists() {
		m := trieOf(patterns...)
		step := New(m).Step()
		for state := range m.Len() {
			for b := range 256 {
				if got, want := step(state, byte(b)), m.Next(state, byte(b)); got != want {
					t.Errorf("of %q: the step from %d by %q leads to %d, want %d", patterns, state, byte(b), got, want)
				}
			}
		}
	}
}

func TestRowsAreTakenInOrder(t *testing.T) {
	sized := func(state, n int) row { return row{state, make([]exception, n)} }
	want := []row{sized(5, 9), sized(7, 9), sized(1, 3), sized(2, 3), sized(9, 3), sized(3, 1), sized(4, 1), sized(8, 1)}
	all := &rows{}
	for _, i := range []int{3, 7, 0, 5, 2, 6, 1, 4} {
		heap.Push(all, want[i])
	}
	for _, w := range want {
		if got := heap.Pop(all).(row); got.state != w.state || len(got.exceptions) != len(w.exceptions) {
			t.Errorf("the row of state %d is taken, want that of %d", got.state, w.state)
		}
	}
	if all.Len() != 0 {
		t.Errorf("%d rows are left", all.Len())
	}
}
