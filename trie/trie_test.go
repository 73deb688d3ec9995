package trie

import (
	"slices"
	"strings"
	"testing"
)

func trieOf(patterns ...string) *Trie {
	var l [][]byte
	for _, p := range patterns {
		l = append(l, []byte(p))
	}
	return New(l)
}

// spelled tells all states, in their order.
func spelled(t *Trie) []string {
	var all []string
	for i := range t.Len() {
		all = append(all, string(t.spell(i)))
	}
	return all
}

func TestStatesOfTheExample(t *testing.T) {
	m := trieOf("he", "she", "hers")
	if got, want := spelled(m), []string{"", "h", "s", "he", "sh", "her", "she", "hers"}; !slices.Equal(got, want) {
		t.Errorf("states %q, want %q", got, want)
	}
	if want := []int{3, 6, 7}; !slices.Equal(m.ends, want) {
		t.Errorf("patterns are the states %d, want %d", m.ends, want)
	}
	for i, want := range []int{0, 0, 0, 0, 1, 0, 3, 2} {
		if got := m.states[i].Fail; got != want {
			t.Errorf("FAIL of %d is %d, want %d", i, got, want)
		}
	}
}

func TestStatesAreSorted(t *testing.T) {
	for _, k := range []struct{ patterns, states []string }{
		{nil, []string{""}},
		{[]string{"\x00"}, []string{"", "\x00"}},
		{[]string{"\x00\x00", "\x00"}, []string{"", "\x00", "\x00\x00"}},
		{[]string{"b", "a", "b"}, []string{"", "a", "b"}},
		{[]string{"\xff", "\x00a", "b", "a", "aa", "a"}, []string{"", "\x00", "a", "b", "\xff", "\x00a", "aa"}},
		{[]string{"bab", "abb", "ba"}, []string{"", "a", "b", "ab", "ba", "abb", "bab"}},
	} {
		if got := spelled(trieOf(k.patterns...)); !slices.Equal(got, k.states) {
			t.Errorf("of %q: states %q, want %q", k.patterns, got, k.states)
		}
	}
}

// FAIL by its word: the longest ending, but for the state itself, that is a state.
func TestFailByTheWord(t *testing.T) {
	for _, patterns := range [][]string{
		{"aaaa"}, {"abab", "bab", "ab"}, {"abcabcabd", "bcab", "ca", "d"}, {"\x00\x00\xff", "\x00\xff\x00", "\xff"},
	} {
		m := trieOf(patterns...)
		states := spelled(m)
		for i, s := range states[1:] {
			want := s[1:]
			for !slices.Contains(states, want) {
				want = want[1:]
			}
			if got := states[m.states[i+1].Fail]; got != want {
				t.Errorf("of %q: FAIL of %q is %q, want %q", patterns, s, got, want)
			}
		}
	}
}

func TestNextOfLongestWay(t *testing.T) {
	m := trieOf(strings.Repeat("a", 64), "b")
	if got := m.Next(m.Len()-1, 'a'); got != m.Len()-1 {
		t.Errorf("NEXT of the longest state and a is %d", got)
	}
	if got := m.Next(m.Len()-1, 'b'); string(m.spell(got)) != "b" {
		t.Errorf("NEXT of the longest state and b is %q", m.spell(got))
	}
	if got := m.Next(m.Len()-1, 'c'); got != 0 {
		t.Errorf("NEXT of the longest state and c is %d", got)
	}
}

func TestEndsAreNewMemory(t *testing.T) {
	m := trieOf("b", "a", "b")
	ends := m.Ends()
	if want := []int{2, 1, 2}; !slices.Equal(ends, want) {
		t.Errorf("patterns are the states %d, want %d", ends, want)
	}
	clear(ends[:cap(ends)])
	if want := []int{2, 1, 2}; !slices.Equal(m.Ends(), want) {
		t.Errorf("later the patterns are the states %d, want %d", m.Ends(), want)
	}
}
