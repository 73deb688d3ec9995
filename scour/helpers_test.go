package scour_test

import (
	"maps"
	"math/rand"
	"slices"
	"strings"
	"testing"

	"scour/api"
	"scour/scour"
)

// list makes patterns of texts, each in memory of its own.
func list(texts ...string) [][]byte {
	l := make([][]byte, len(texts))
	for i, text := range texts {
		l[i] = []byte(text)
	}
	return l
}

// times is a pattern n times over.
func times(n int, text string) [][]byte {
	return list(slices.Repeat([]string{text}, n)...)
}

// long is a pattern of n bytes.
func long(n int) string {
	return strings.Repeat("a", n)
}

func compile(t *testing.T, patterns [][]byte) *scour.Machine {
	t.Helper()
	m, e, at := scour.Compile(patterns)
	if m == nil || e != api.OK || at != 0 {
		t.Fatalf("P2: Compile(%q) = %v, %d, %d, want a machine, OK, 0", patterns, m, e, at)
	}
	return m
}

// texts tells patterns as strings, which are compared at ease.
func texts(patterns [][]byte) []string {
	l := make([]string, len(patterns))
	for i, p := range patterns {
		l[i] = string(p)
	}
	return l
}

// model answers by the document's words alone, as slowly as they say it.
type model struct {
	states []string
	number map[string]int
}

func modelOf(patterns []string) model {
	beginnings := map[string]bool{"": true}
	for _, p := range patterns {
		for n := range len(p) {
			beginnings[p[:n+1]] = true
		}
	}
	states := slices.Collect(maps.Keys(beginnings))
	slices.SortFunc(states, func(a, b string) int {
		if len(a) != len(b) {
			return len(a) - len(b)
		}
		return strings.Compare(a, b)
	})
	return numbered(states)
}

// numbered makes a model of states in an order.
func numbered(states []string) model {
	number := map[string]int{}
	for i, s := range states {
		number[s] = i
	}
	return model{states, number}
}

// next is NEXT: the longest ending of the state with the byte behind it that is a state.
func (m model) next(state int, b byte) int {
	ending := m.states[state] + string([]byte{b})
	for {
		if n, ok := m.number[ending]; ok {
			return n
		}
		ending = ending[1:]
	}
}

// words tells all words of 1 to most letters out of an alphabet.
func words(alphabet string, most int) []string {
	var all []string
	level := []string{""}
	for range most {
		var longer []string
		for _, w := range level {
			for i := range len(alphabet) {
				longer = append(longer, w+alphabet[i:i+1])
			}
		}
		all = append(all, longer...)
		level = longer
	}
	return all
}

// smallLists tells every choice of up to three words of up to three letters out of two, a word more than once among them.
func smallLists() [][]string {
	all := words("ab", 3)
	lists := [][]string{nil}
	for i, a := range all {
		lists = append(lists, []string{a})
		for j, b := range all[i:] {
			// The greater first, so that the order of the patterns is not that of the states.
			lists = append(lists, []string{b, a})
			for _, c := range all[i+j:] {
				lists = append(lists, []string{c, a, b})
			}
		}
	}
	return lists
}

// drawnLists tells lists that are drawn out of alphabets with the least and greatest bytes.
func drawnLists() [][]string {
	r := rand.New(rand.NewSource(7))
	var lists [][]string
	for _, alphabet := range []string{"a", "ab", "abc", "\x00\xff", "\x00\x01\x7f\x80\xff", "\xff\x00a", "abcdefgh"} {
		for range 30 {
			var l []string
			for range 1 + r.Intn(8) {
				l = append(l, drawn(r, alphabet, 1+r.Intn(9)))
			}
			lists = append(lists, l)
		}
	}
	return lists
}

func drawn(r *rand.Rand, alphabet string, n int) string {
	b := make([]byte, n)
	for i := range b {
		b[i] = alphabet[r.Intn(len(alphabet))]
	}
	return string(b)
}

// fullLists tells lists that are as great as the bounds allow.
func fullLists() map[string][]string {
	r := rand.New(rand.NewSource(8))
	short := api.MaxTotal / api.MaxPatterns
	deep := api.MaxTotal / api.MaxLength
	lists := map[string][]string{"one letter": slices.Repeat([]string{long(api.MaxLength)}, deep)}
	for i := range api.MaxPatterns {
		each := make([]byte, short)
		for k := range each {
			each[k] = byte(i*short + k)
		}
		lists["every byte"] = append(lists["every byte"], string(each))
		lists["drawn short"] = append(lists["drawn short"], drawn(r, "ab", short))
	}
	for i := range deep {
		lists["no beginning shared"] = append(lists["no beginning shared"], string(rune('b'+i))+long(api.MaxLength-1))
		lists["drawn long"] = append(lists["drawn long"], drawn(r, "ab", api.MaxLength))
		lists["far fails"] = append(lists["far fails"], long(api.MaxLength-1-i)+strings.Repeat("b", i+1))
	}
	lists["many cells"] = manyCells()
	return lists
}

// manyCells tells patterns in which most states end with an a, and in which nearly as many bytes as there are patterns come behind an a: each such state has an exception for each such byte.
func manyCells() []string {
	const deep = 6
	var l []string
	for i := range deep {
		l = append(l, string([]byte{byte(i)})+long(api.MaxLength-1))
	}
	for i := deep; i < api.MaxPatterns; i++ {
		l = append(l, "a"+string([]byte{byte(255 - i)}))
	}
	rest := api.MaxTotal - deep*api.MaxLength - 2*(api.MaxPatterns-deep)
	l[deep] += strings.Repeat("\xff", rest)
	return l
}

// eachByteOnce tells patterns that have so many bytes together, and each of them once: one class a byte, one state a byte and one.
func eachByteOnce(n int) []string {
	var l []string
	b := make([]byte, n)
	for i := range b {
		b[i] = byte(i)
	}
	for piece := range slices.Chunk(b, api.MaxLength) {
		l = append(l, string(piece))
	}
	return l
}

// checkManyLists checks small, drawn and full lists.
func checkManyLists(t *testing.T, check func(t *testing.T, patterns []string)) {
	for _, l := range slices.Concat(smallLists(), drawnLists()) {
		check(t, l)
	}
	for name, l := range fullLists() {
		t.Run(name, func(t *testing.T) { check(t, l) })
	}
}
