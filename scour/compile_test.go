package scour_test

import (
	"slices"
	"testing"

	"scour/api"
	"scour/scour"
)

type compileCase struct {
	name     string
	patterns [][]byte
	e        api.Errno
	at       int
}

// joined is several lists as one.
func joined(lists ...[][]byte) [][]byte {
	return slices.Concat(lists...)
}

func compileCases() []compileCase {
	tooLong := long(api.MaxLength + 1)
	deep := api.MaxTotal / api.MaxLength
	full := times(deep, long(api.MaxLength))
	over := joined(full, list("a"))
	var empty []byte
	return []compileCase{
		{"nil", nil, api.OK, 0},
		{"no patterns", [][]byte{}, api.OK, 0},
		{"the example", list("he", "she", "hers"), api.OK, 0},
		{"one byte 0", list("\x00"), api.OK, 0},
		{"the same pattern twice", list("ab", "ab"), api.OK, 0},
		{"the same pattern apart", list("a", "b", "a"), api.OK, 0},

		{"most patterns", times(api.MaxPatterns, "a"), api.OK, 0},
		{"one pattern more", times(api.MaxPatterns+1, "a"), api.ErrMany, 0},
		{"far more patterns", times(100*api.MaxPatterns, "a"), api.ErrMany, 0},
		{"longest pattern", list(long(api.MaxLength)), api.OK, 0},
		{"one byte longer", list(tooLong), api.ErrLong, 0},
		{"far longer", list("a", long(1<<16)), api.ErrLong, 1},
		{"longest pattern with room behind it", [][]byte{[]byte(tooLong)[:api.MaxLength]}, api.OK, 0},
		{"most bytes, long patterns", full, api.OK, 0},
		{"most bytes, most patterns", times(api.MaxPatterns, long(api.MaxTotal/api.MaxPatterns)), api.OK, 0},
		{"one byte more, long patterns", over, api.ErrTotal, 0},
		{"one byte more, most patterns", joined(times(api.MaxPatterns-1, long(api.MaxTotal/api.MaxPatterns)), list(long(api.MaxTotal/api.MaxPatterns+1))), api.ErrTotal, 0},
		{"all at their most but the total", times(api.MaxPatterns, long(api.MaxLength)), api.ErrTotal, 0},

		{"empty, nil", [][]byte{empty}, api.ErrEmpty, 0},
		{"empty, not nil", [][]byte{{}}, api.ErrEmpty, 0},
		{"empty, with room behind it", [][]byte{[]byte("abc")[:0]}, api.ErrEmpty, 0},
		{"empty behind others", list("a", "b", "", "c", ""), api.ErrEmpty, 2},
		{"empty as the last that may be", joined(times(api.MaxPatterns-1, "a"), list("")), api.ErrEmpty, api.MaxPatterns - 1},
		{"too long behind others", list("a", "b", tooLong, "c", tooLong), api.ErrLong, 2},
		{"too long as the last that may be", joined(times(api.MaxPatterns-1, "a"), list(tooLong)), api.ErrLong, api.MaxPatterns - 1},
		{"empty, then too long", list("a", "", tooLong), api.ErrEmpty, 1},
		{"too long, then empty", list("a", tooLong, ""), api.ErrLong, 1},
		{"too long far ahead of empty", list(tooLong, "a", "b", ""), api.ErrLong, 0},

		{"many and empty", times(api.MaxPatterns+1, ""), api.ErrMany, 0},
		{"many and empty at 0", joined(list(""), times(api.MaxPatterns, "a")), api.ErrMany, 0},
		{"many and too long at 1", joined(list("a", tooLong), times(api.MaxPatterns, "a")), api.ErrMany, 0},
		{"many and total", times(api.MaxPatterns+1, long(api.MaxLength)), api.ErrMany, 0},
		{"total, then empty", joined(over, list("")), api.ErrEmpty, deep + 1},
		{"total, then too long", joined(over, list(tooLong)), api.ErrLong, deep + 1},
		{"empty, then total", joined(list("b", ""), over), api.ErrEmpty, 1},
		{"too long, then total", joined(list("b", tooLong), over), api.ErrLong, 1},
		{"total by what is too long", joined(list("b"), times(deep, tooLong)), api.ErrLong, 1},
	}
}

func TestCompile(t *testing.T) {
	for _, k := range compileCases() {
		t.Run(k.name, func(t *testing.T) {
			m, e, at := scour.Compile(k.patterns)
			if e != k.e || at != k.at {
				t.Fatalf("P2: Compile = %d, %d, want %d, %d", e, at, k.e, k.at)
			}
			if e != api.OK && m != nil {
				t.Fatal("P1: a machine beside an error")
			}
			if e == api.OK && m == nil {
				t.Fatal("P2: no machine")
			}
		})
	}
}

func TestCompiledMachinesTellTheirPatterns(t *testing.T) {
	for _, k := range compileCases() {
		if k.e != api.OK {
			continue
		}
		if got := compile(t, k.patterns).Patterns(); !slices.Equal(texts(got), texts(k.patterns)) {
			t.Errorf("P3: %s: Patterns() = %q", k.name, got)
		}
	}
}
