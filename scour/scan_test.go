package scour_test

import (
	"math/rand"
	"slices"
	"strconv"
	"strings"
	"testing"

	"scour/api"
	"scour/scour"
)

// spelled writes what is told as the examples have it here: pattern@end, with blanks between.
func spelled(told []api.Match) string {
	var l []string
	for _, x := range told {
		l = append(l, strconv.Itoa(x.Pattern)+"@"+strconv.Itoa(x.End))
	}
	return strings.Join(l, " ")
}

// checkFed feeds a text and checks what is told, as it is spelled.
func checkFed(t *testing.T, s *scour.Scanner, text, want string) {
	t.Helper()
	if got := spelled(s.Feed([]byte(text))); got != want {
		t.Errorf("P6: Feed(%q) = %s, want %s", text, got, want)
	}
}

func TestScansWrittenOut(t *testing.T) {
	for _, k := range []struct {
		name         string
		patterns     []string
		pieces, told []string
	}{
		{"the example", example(), []string{"ushers"}, []string{"1@4 0@4 2@6"}},
		{"the example in three pieces", example(), []string{"us", "he", "rs"}, []string{"", "1@4 0@4", "2@6"}},
		{"the example twice he", example(), []string{"hehe"}, []string{"0@2 0@4"}},
		{"the example a, a, aa", []string{"a", "a", "aa"}, []string{"aaa"}, []string{"0@1 1@1 2@2 0@2 1@2 2@3 0@3 1@3"}},
		{"no patterns", nil, []string{"anything", "", "\x00\xff"}, []string{"", "", ""}},
		{"no bytes", example(), []string{"", "", "he", "", "rs", ""}, []string{"", "", "0@2", "", "2@4", ""}},
		{"a piece of a pattern behind nothing", example(), []string{"hers", "s"}, []string{"0@2 2@4", ""}},
		{"the same pattern apart", []string{"b", "ab", "b", "cab", "ab", "b"}, []string{"xcab"}, []string{"3@4 1@4 4@4 0@4 2@4 5@4"}},
		{"patterns that end with one another", []string{"d", "cd", "bcd", "abcd"}, []string{"abcdcd"}, []string{"3@4 2@4 1@4 0@4 1@6 0@6"}},
		{"the longer have the lesser numbers", []string{"abcd", "bcd", "cd", "d"}, []string{"abcdcd"}, []string{"0@4 1@4 2@4 3@4 2@6 3@6"}},
		{"an ending under one that is no pattern", []string{"caba", "bab", "a"}, []string{"caba"}, []string{"2@2 0@4 2@4"}},
		{"a pattern within a beginning that does not go on", []string{"abcd", "bc"}, []string{"abc", "x"}, []string{"1@3", ""}},
		{"the bytes 0 and 255", []string{"\x00\xff", "\xff", "\x00\x00"}, []string{"\x00", "\x00\xff\xff"}, []string{"", "2@2 0@3 1@3 1@4"}},
		{"nothing", example(), []string{"xyzxyz", "eshrse"}, []string{"", ""}},
	} {
		for _, m := range machines(t, k.patterns) {
			t.Run(k.name, func(t *testing.T) {
				s := begun(t, m)
				for i, piece := range k.pieces {
					checkFed(t, s, piece, k.told[i])
				}
			})
		}
	}
}

func TestFeedOfNothing(t *testing.T) {
	for _, l := range memoryLists() {
		for _, m := range machines(t, l) {
			text := strings.Join(l, "")
			s := begun(t, m)
			for range 3 {
				for _, b := range [][]byte{nil, {}, []byte("room")[:0]} {
					if told := s.Feed(b); len(told) != 0 {
						t.Fatalf("P6: of %q: Feed of nothing = %v", l, told)
					}
				}
			}
			if got, want := s.Feed([]byte(text)), toldByWords(l, text); !slices.Equal(got, want) {
				t.Fatalf("P6: of %q: behind Feed of nothing, Feed(%q) = %v, want %v", l, text, got, want)
			}
		}
	}
}

// checkScan checks what a new scanner of a machine tells of a whole text.
func checkScan(t *testing.T, m *scour.Machine, patterns []string, text string) {
	t.Helper()
	if got, want := begun(t, m).Feed([]byte(text)), toldByWords(patterns, text); !slices.Equal(got, want) {
		t.Fatalf("P6: of %q: Feed(%q) = %v, want %v", patterns, text, got, want)
	}
}

func TestShortTextsByTheWords(t *testing.T) {
	all := shortTexts()
	for _, l := range smallLists() {
		for _, m := range machines(t, l) {
			for _, text := range all {
				checkScan(t, m, l, text)
			}
		}
	}
}

func TestDrawnTextsByTheWords(t *testing.T) {
	r := rand.New(rand.NewSource(31))
	for _, l := range slices.Concat(fewLists(), drawnLists()) {
		for _, m := range machines(t, l) {
			for range 20 {
				checkScan(t, m, l, drawnText(r, l, 100))
			}
		}
	}
}

func TestFullListsByTheWords(t *testing.T) {
	for name, l := range scanLists() {
		t.Run(name, func(t *testing.T) {
			r := rand.New(rand.NewSource(32))
			for _, m := range machines(t, l) {
				checkScan(t, m, l, strings.Join(l, ""))
				checkScan(t, m, l, strings.Join(l, "x"))
				for range 5 {
					checkScan(t, m, l, drawnText(r, l, 1000))
				}
			}
		})
	}
}

func TestTheLongestPattern(t *testing.T) {
	for _, m := range machines(t, []string{long(api.MaxLength)}) {
		s := begun(t, m)
		checkFed(t, s, long(api.MaxLength-1), "")
		checkFed(t, s, "a", "0@64")
		checkFed(t, s, "aa", "0@65 0@66")
		checkFed(t, s, "b"+long(api.MaxLength-1), "")
		checkFed(t, s, "a", "0@131")
	}
}

func TestAllPatternsAtOneByte(t *testing.T) {
	l := slices.Repeat([]string{"ab"}, api.MaxPatterns)
	for _, m := range machines(t, l) {
		told := begun(t, m).Feed([]byte("ab"))
		if len(told) != api.MaxPatterns {
			t.Fatalf("P6: Feed tells %d patterns, want %d", len(told), api.MaxPatterns)
		}
		for i, x := range told {
			if x.Pattern != i || x.End != 2 {
				t.Errorf("P6: place %d is of pattern %d at %d, want %d at 2", i, x.Pattern, x.End, i)
			}
		}
	}
}

func TestEveryByteAloneIsFound(t *testing.T) {
	all := make([]byte, 256)
	for i := range all {
		all[i] = byte(i)
	}
	for b := range 256 {
		s := begun(t, compile(t, [][]byte{{byte(b)}}))
		checkFed(t, s, string(all), "0@"+strconv.Itoa(b+1))
		checkFed(t, s, string(all), "0@"+strconv.Itoa(256+b+1))
	}
}

func TestEndCountsAllBytesThatHaveCome(t *testing.T) {
	s := begun(t, compile(t, list(example()...)))
	piece := []byte(strings.Repeat("x", 1<<16))
	for range 100 {
		s.Feed(piece)
	}
	checkFed(t, s, "he", "0@"+strconv.Itoa(100<<16+2))
	for range 7 {
		s.Feed([]byte("z"))
	}
	checkFed(t, s, "she", "1@"+strconv.Itoa(100<<16+12)+" 0@"+strconv.Itoa(100<<16+12))
	checkFed(t, begun(t, compile(t, list(example()...))), "he", "0@2")
}

func TestALongText(t *testing.T) {
	l := []string{"a", long(api.MaxLength), "b"}
	checkScan(t, compile(t, list(l...)), l, strings.Repeat(long(1000)+"b", 30))
}

// A scanner does not ask Next, but must agree with it: what a text tells at its end are the patterns with which its state ends.
func TestScansAgreeWithNext(t *testing.T) {
	r := rand.New(rand.NewSource(33))
	for _, l := range drawnLists() {
		m, states := compile(t, list(l...)), modelOf(l).states
		text := drawnText(r, l, 60)
		s, state := begun(t, m), 0
		for i := range len(text) {
			state, _ = m.Next(state, text[i])
			var want []int
			for _, x := range within(toldByWords(l, states[state]), len(states[state])-1, len(states[state])) {
				want = append(want, x.Pattern)
			}
			var got []int
			for _, x := range s.Feed([]byte{text[i]}) {
				got = append(got, x.Pattern)
			}
			if !slices.Equal(got, want) {
				t.Fatalf("P6: of %q: behind %q there is told %d, but in its state %q end %d", l, text[:i+1], got, states[state], want)
			}
		}
	}
}
