package scour_test

import (
	"math"
	"slices"
	"testing"

	"scour/api"
	"scour/scour"
)

func TestPatternsKeepTheirOrder(t *testing.T) {
	for _, l := range [][]string{
		nil, {"a"}, {"he", "she", "hers"}, {"b", "a"}, {"ab", "a", "ab", "b", "a"}, {"\xff\x00", "\x00", "\x00\xff"},
	} {
		if got := compile(t, list(l...)).Patterns(); !slices.Equal(texts(got), l) {
			t.Errorf("P3: Patterns() = %q, want %q", got, l)
		}
	}
}

func TestExample(t *testing.T) {
	m := compile(t, list("he", "she", "hers"))
	if n := m.States(); n != 8 {
		t.Fatalf("P3: States() = %d, want 8", n)
	}
	// NEXT of each state where it is not 0 for every byte, as the example tells it.
	for state, next := range []map[byte]int{
		{'h': 1, 's': 2},
		{'h': 1, 's': 2, 'e': 3},
		{'h': 4, 's': 2},
		{'h': 1, 's': 2, 'r': 5},
		{'h': 1, 's': 2, 'e': 6},
		{'h': 1, 's': 7},
		{'h': 1, 's': 2, 'r': 5},
		{'h': 4, 's': 2},
	} {
		for b := range 256 {
			if n, e := m.Next(state, byte(b)); n != next[byte(b)] || e != api.OK {
				t.Errorf("P3: Next(%d, %q) = %d, %d, want %d, OK", state, byte(b), n, e, next[byte(b)])
			}
		}
	}
}

// checkByWords holds a machine against the words STATES and NEXT, at every state and byte.
func checkByWords(t *testing.T, patterns []string) {
	t.Helper()
	m, want := compile(t, list(patterns...)), modelOf(patterns)
	if n := m.States(); n != len(want.states) {
		t.Fatalf("P3: of %q: States() = %d, want %d", patterns, n, len(want.states))
	}
	if got := m.Patterns(); !slices.Equal(texts(got), patterns) {
		t.Fatalf("P3: of %q: Patterns() = %q", patterns, got)
	}
	for state := range want.states {
		for b := range 256 {
			if n, e := m.Next(state, byte(b)); n != want.next(state, byte(b)) || e != api.OK {
				t.Fatalf("P3: of %q: Next(%d, %q) = %d, %d, want %d, OK", patterns, state, byte(b), n, e, want.next(state, byte(b)))
			}
		}
	}
	checkNoSuchState(t, m)
}

func checkNoSuchState(t *testing.T, m *scour.Machine) {
	t.Helper()
	for _, state := range []int{-1, -2, m.States(), m.States() + 1, math.MaxInt, math.MinInt, math.MaxInt32, math.MinInt32, 1 << 32, -1 << 32} {
		for b := range 256 {
			if n, e := m.Next(state, byte(b)); n != 0 || e != api.ErrArg {
				t.Fatalf("P3: Next(%d, %q) = %d, %d, want 0, ErrArg", state, byte(b), n, e)
			}
		}
	}
}

func TestStatesByTheWords(t *testing.T) {
	checkManyLists(t, checkByWords)
}

func TestEveryByteAlone(t *testing.T) {
	for b := range 256 {
		checkByWords(t, []string{string([]byte{byte(b)})})
	}
}
