package scour_test

import (
	"math/rand"
	"slices"
	"strings"
	"testing"

	"scour/api"
	"scour/scour"
)

// What a scanner tells, by the document's words alone, and the texts and machines of which it is asked.

// toldByWords looks at each byte of a text for each pattern that the text ends with there.
func toldByWords(patterns []string, text string) []api.Match {
	order := make([]int, len(patterns))
	for i := range order {
		order[i] = i
	}
	slices.SortStableFunc(order, func(a, b int) int { return len(patterns[b]) - len(patterns[a]) })
	var told []api.Match
	for end := range len(text) + 1 {
		for _, i := range order {
			if strings.HasSuffix(text[:end], patterns[i]) {
				told = append(told, api.Match{Pattern: i, End: end})
			}
		}
	}
	return told
}

// within is as much of what is told as ends behind more than from bytes, but not more than to.
func within(told []api.Match, from, to int) []api.Match {
	var l []api.Match
	for _, x := range told {
		if x.End > from && x.End <= to {
			l = append(l, x)
		}
	}
	return l
}

func begun(t *testing.T, m *scour.Machine) *scour.Scanner {
	t.Helper()
	s := m.Scan()
	if s == nil {
		t.Fatal("P6: Scan() = nil")
	}
	return s
}

// machines tells two machines of patterns: one that Compile gave, and one that Load gave.
func machines(t *testing.T, patterns []string) []*scour.Machine {
	t.Helper()
	m := compile(t, list(patterns...))
	return []*scour.Machine{m, load(t, m.Save())}
}

// shortTexts tells all texts of a few letters out of those of the small lists, and of fewer with a letter of none.
func shortTexts() []string {
	return slices.Concat(words("ab", 6), words("abx", 4), []string{""})
}

// drawnText is a text of at least n bytes that is made of patterns, their beginnings and endings, and of any bytes.
func drawnText(r *rand.Rand, patterns []string, n int) string {
	var b []byte
	for len(b) < n {
		p := string([]byte{byte(r.Intn(256))})
		if len(patterns) > 0 && r.Intn(8) > 0 {
			p = patterns[r.Intn(len(patterns))]
		}
		switch at := r.Intn(len(p) + 1); r.Intn(3) {
		case 0:
			b = append(b, p...)
		case 1:
			b = append(b, p[:at]...)
		case 2:
			b = append(b, p[at:]...)
		}
	}
	return string(b)
}

// scanLists tells full lists, and such of which many patterns end at one byte.
func scanLists() map[string][]string {
	lists := fullLists()
	lists["each ends with all shorter"] = nested()
	lists["the same as often as can be"] = slices.Repeat([]string{"ab"}, api.MaxPatterns)
	lists["most patterns within the longest"] = append(slices.Repeat([]string{"b"}, api.MaxPatterns-1), long(api.MaxLength-1)+"b")
	return lists
}

// nested tells patterns of as many lengths as fit together, each an ending of the longer ones, and the shortest as often as fits then.
func nested() []string {
	var l []string
	left := api.MaxTotal
	for n := 1; n <= left; n++ {
		l = append(l, long(n))
		left -= n
	}
	return append(l, slices.Repeat([]string{"a"}, min(left, api.MaxPatterns-len(l)))...)
}
