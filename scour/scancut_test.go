package scour_test

import (
	"maps"
	"math/rand"
	"slices"
	"strings"
	"testing"

	"scour/api"
	"scour/scour"
)

// places tells where patterns stand in a text: each place by the pattern and where it ends there, with how often it is to be told.
func places(patterns []string, text string) map[api.Match]int {
	all := map[api.Match]int{}
	for i, p := range patterns {
		for from := range len(text) {
			if strings.HasPrefix(text[from:], p) {
				all[api.Match{Pattern: i, End: from + len(p)}] = 1
			}
		}
	}
	return all
}

// checkPlaces checks that each place is told just once, and nothing else.
func checkPlaces(t *testing.T, patterns []string, pieces []string, told []api.Match) {
	t.Helper()
	got := map[api.Match]int{}
	for _, x := range told {
		got[x]++
	}
	if want := places(patterns, strings.Join(pieces, "")); !maps.Equal(got, want) {
		t.Fatalf("P7: of %q in %q the places are told %v times, want %v", patterns, pieces, got, want)
	}
}

// checkCut feeds pieces of a text to a new scanner of a machine, and checks what each call tells, and all together.
func checkCut(t *testing.T, m *scour.Machine, patterns []string, pieces []string) {
	t.Helper()
	whole := toldByWords(patterns, strings.Join(pieces, ""))
	s := begun(t, m)
	var all []api.Match
	from := 0
	for i, piece := range pieces {
		got := s.Feed([]byte(piece))
		want := within(whole, from, from+len(piece))
		if !slices.Equal(got, want) {
			t.Fatalf("P6: of %q: piece %d of %q tells %v, want %v", patterns, i, pieces, got, want)
		}
		all = append(all, got...)
		from += len(piece)
	}
	checkPlaces(t, patterns, pieces, all)
}

// cut is a text cut behind each byte whose bit is 1.
func cut(text string, bits int) []string {
	var pieces []string
	from := 0
	for at := 1; at < len(text); at++ {
		if bits>>(at-1)&1 == 1 {
			pieces = append(pieces, text[from:at])
			from = at
		}
	}
	return append(pieces, text[from:])
}

// checkAllCuts feeds a text cut in every way.
func checkAllCuts(t *testing.T, m *scour.Machine, patterns []string, text string) {
	t.Helper()
	for bits := range 1 << max(0, len(text)-1) {
		checkCut(t, m, patterns, cut(text, bits))
	}
}

// All texts of five letters are cut in every way. The shorter ones are beginnings of these.
func TestShortTextsCutInEveryWay(t *testing.T) {
	shorter := func(w string) bool { return len(w) < 5 }
	all := append(slices.DeleteFunc(words("ab", 5), shorter), "xabab", "abxab", "abbxa")
	for _, l := range smallLists() {
		for _, m := range machines(t, l) {
			for _, text := range all {
				checkAllCuts(t, m, l, text)
			}
		}
	}
}

func TestLongerTextsCutInEveryWay(t *testing.T) {
	for _, k := range []struct {
		patterns []string
		text     string
	}{
		{example(), "ushershehers"},
		{[]string{"a", "a", "aa"}, "aaaaaaaaaa"},
		{[]string{"abab", "bab", "ab", "b"}, "abababxabab"},
		{[]string{"\x00\xff\x00", "\xff\x00\xff", "\x00"}, "\x00\xff\x00\xff\x00\x00\xff\xff\x00\xff"},
		{[]string{"abcabd", "bca", "cab", "d"}, "abcabcabdabc"},
		{nil, "anything"},
	} {
		for _, m := range machines(t, k.patterns) {
			checkAllCuts(t, m, k.patterns, k.text)
		}
	}
}

// cutAnywhere is a text cut at drawn places, pieces of nothing among them.
func cutAnywhere(r *rand.Rand, text string) []string {
	most := 1 + r.Intn(20)
	var pieces []string
	for text != "" {
		n := min(len(text), r.Intn(most+1))
		pieces = append(pieces, text[:n])
		text = text[n:]
	}
	return append(pieces, "")
}

// byteByByte is a text in pieces of one byte, with nothing ahead of each.
func byteByByte(text string) []string {
	var pieces []string
	for i := range len(text) {
		pieces = append(pieces, "", text[i:i+1])
	}
	return pieces
}

// checkDrawnCuts checks drawn texts of so many bytes, whole and cut.
func checkDrawnCuts(t *testing.T, r *rand.Rand, patterns []string, n int) {
	t.Helper()
	for _, m := range machines(t, patterns) {
		for range 4 {
			text := drawnText(r, patterns, n)
			checkCut(t, m, patterns, []string{text})
			checkCut(t, m, patterns, byteByByte(text))
			for range 4 {
				checkCut(t, m, patterns, cutAnywhere(r, text))
			}
		}
	}
}

func TestDrawnTextsCutAnywhere(t *testing.T) {
	r := rand.New(rand.NewSource(41))
	for _, l := range slices.Concat(fewLists(), drawnLists()) {
		checkDrawnCuts(t, r, l, 60)
	}
}

func TestFullListsCutAnywhere(t *testing.T) {
	for name, l := range scanLists() {
		t.Run(name, func(t *testing.T) { checkDrawnCuts(t, rand.New(rand.NewSource(42)), l, 300) })
	}
}

// A text of two pieces, cut at each of its places: the longest pattern comes over every one.
func TestTheLongestPatternCutAtEachPlace(t *testing.T) {
	l := []string{strings.Repeat("ab", api.MaxLength/2), "ba", "b"}
	text := "b" + l[0] + "a" + l[0]
	for _, m := range machines(t, l) {
		for at := range len(text) + 1 {
			checkCut(t, m, l, []string{text[:at], text[at:]})
		}
	}
}
