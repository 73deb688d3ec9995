package ends

import (
	"slices"
	"testing"

	"scour/api"
	"scour/trie"
)

func tableOf(patterns ...string) *Table {
	var l [][]byte
	for _, p := range patterns {
		l = append(l, []byte(p))
	}
	return New(trie.New(l))
}

// all tells the numbers of the patterns that each state ends with.
func (e *Table) all() [][]int {
	list := make([][]int, len(e.shorter))
	for state := range list {
		for _, x := range e.Append(nil, state, 7) {
			list[state] = append(list[state], x.Pattern)
		}
	}
	return list
}

func TestPatternsOfEachState(t *testing.T) {
	for _, k := range []struct {
		name     string
		patterns []string
		want     [][]int
	}{
		{"no patterns", nil, [][]int{nil}},
		// h, s, he, sh, her, she, hers
		{"the example", []string{"he", "she", "hers"}, [][]int{nil, nil, nil, {0}, nil, nil, {1, 0}, {2}}},
		{"the same more than once", []string{"a", "a", "aa"}, [][]int{nil, {0, 1}, {2, 0, 1}}},
		// b, c, d, ca, cab, cabd: that cab ends with b is found though ab is no state, and that cabd ends with d though cab is ahead of it.
		{"endings that are far shorter", []string{"d", "cabd", "b"}, [][]int{nil, {2}, nil, {0}, nil, {2}, {1, 0}}},
		// a, b, c, ba, ca, bab, cab, caba; FAIL of caba is ba, which is no pattern, but ends with one.
		{"an ending that is no pattern, but ends with one", []string{"caba", "bab", "a"}, [][]int{nil, {2}, nil, nil, {2}, {2}, {1}, nil, {0, 2}}},
	} {
		if got := tableOf(k.patterns...).all(); !slices.EqualFunc(got, k.want, slices.Equal) {
			t.Errorf("%s: the states end with %d, want %d", k.name, got, k.want)
		}
	}
}

func TestAppendKeepsWhatIsThere(t *testing.T) {
	e := tableOf("he", "she", "hers")
	got := e.Append([]api.Match{{Pattern: 9, End: 3}}, 6, 4)
	if want := []api.Match{{Pattern: 9, End: 3}, {Pattern: 1, End: 4}, {Pattern: 0, End: 4}}; !slices.Equal(got, want) {
		t.Errorf("the list is %d, want %d", got, want)
	}
	if got = e.Append(got, 0, 5); len(got) != 3 {
		t.Errorf("of state 0 there is added %d", got[3:])
	}
}
