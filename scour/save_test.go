package scour_test

import (
	"bytes"
	"slices"
	"strings"
	"testing"
)

func TestFileOfNoPatterns(t *testing.T) {
	want := []byte{'S', 'C', 'R', 1, 0, 1, 0, 0, 0, 0xd2, 0x17, 0xe5, 0xb7}
	for _, l := range [][][]byte{nil, {}} {
		if got := compile(t, l).Save(); !bytes.Equal(got, want) {
			t.Errorf("P4: Save() = %q, want %q", got, want)
		}
	}
}

func TestFileOfTheExample(t *testing.T) {
	want := slices.Concat(
		[]byte("SCR\x01"),
		[]byte("\x04ehrs"),
		[]byte("\x08\x00h\x00\x00s\x00\x01e\x00\x02h\x01\x03r\x00\x04e\x03\x05s\x02"),
		[]byte("\x03\x03\x06\x07"),
		[]byte("\x00\x00\x00\x00\x03\x01\x03\x05"),
		[]byte("\x08\x00\x02\x03\x03\x04\x04\x05\x05\x06\x06\x07\x07\x05\x08\x04"),
		[]byte("\x7c\xcf\xfb\x15"),
	)
	if got := compile(t, list("he", "she", "hers")).Save(); !bytes.Equal(got, want) {
		t.Errorf("P4: Save() = %q, want %q", got, want)
	}
}

// Files written out, but for their sums: classes, states, patterns, offsets, cells.
func TestFilesWrittenOut(t *testing.T) {
	for _, k := range []struct {
		name     string
		patterns [][]byte
		parts    []string
	}{
		{"no exceptions at all", list("b", "a"),
			[]string{"\x02ab", "\x03\x00a\x00\x00b\x00", "\x02\x02\x01", "\x00\x00\x00", "\x00"}},
		{"the same pattern more than once", list("b", "a", "b", "b"),
			[]string{"\x02ab", "\x03\x00a\x00\x00b\x00", "\x04\x02\x01\x02\x02", "\x00\x00\x00", "\x00"}},
		{"a pattern that is its own ending", list("aa"),
			[]string{"\x01a", "\x03\x00a\x00\x01a\x01", "\x01\x02", "\x00\x00\x01", "\x03\x00\x02\x02\x03\x02"}},
		{"the bytes 0 and 255", list("\xff\x00\xff"),
			[]string{"\x02\x00\xff", "\x04\x00\xff\x00\x01\x00\x00\x02\xff\x01", "\x01\x03", "\x00\x00\x00\x02", "\x04\x00\x02\x02\x03\x03\x04\x02"}},
		{"a cell that stays free between others", list("ba", "bc"),
			[]string{"\x03abc", "\x04\x00b\x00\x01a\x00\x01c\x00", "\x02\x02\x03", "\x00\x00\x00\x00", "\x04\x00\x02\x02\x00\x02\x03"}},
		// b takes the cells 1 and 4, ab fits at 1 (2 and 5), a fills what is left between them, ba goes behind; c and bd have no exceptions.
		{"cells that are filled later, and states without exceptions", list("ba", "bd", "ab", "c"),
			[]string{"\x04abcd", "\x07\x00a\x00\x00b\x00\x00c\x00\x01b\x02\x02a\x01\x02d\x00", "\x04\x05\x06\x04\x03",
				"\x00\x01\x00\x00\x01\x04\x00", "\x07\x00\x03\x05\x05\x05\x02\x04\x03\x06\x05\x06\x06\x04"}},
		{"most exceptions first, of as many the least state", list("aa", "ab", "ba", "aa"),
			[]string{"\x02ab", "\x06\x00a\x00\x00b\x00\x01a\x01\x01b\x02\x02a\x01", "\x04\x03\x04\x05\x03",
				"\x00\x00\x06\x02\x07\x04", "\x09\x00\x02\x03\x02\x04\x04\x03\x04\x04\x06\x03\x06\x04\x03\x05\x05\x05"}},
	} {
		want := sealed([]byte(head + strings.Join(k.parts, "")))
		if got := compile(t, k.patterns).Save(); !bytes.Equal(got, want) {
			t.Errorf("P4: %s: Save() = %q, want %q", k.name, got, want)
		}
	}
}

// checkFile holds a machine's file against the words, byte by byte.
func checkFile(t *testing.T, patterns []string) {
	t.Helper()
	got, want := compile(t, list(patterns...)).Save(), fileByWords(patterns)
	if bytes.Equal(got, want) {
		return
	}
	at := 0
	for at < min(len(got), len(want)) && got[at] == want[at] {
		at++
	}
	t.Fatalf("P4: of %q: Save() has %d bytes, want %d; they differ from byte %d on: %q, want %q", patterns, len(got), len(want), at, got[at:], want[at:])
}

func TestFilesByTheWords(t *testing.T) {
	checkManyLists(t, checkFile)
}

func TestFilesWithNumbersOfOneByteAndMore(t *testing.T) {
	for _, n := range []int{1, 2, 125, 126, 127, 128, 129, 130, 254, 255, 256} {
		checkFile(t, eachByteOnce(n))
	}
}

// It is one of the full lists, so its file is held against the words there.
func TestAFullListHasNumbersOfThreeBytes(t *testing.T) {
	if n := len(draftOf(manyCells()).cells); n < 1<<14 {
		t.Errorf("the list has only %d cells", n)
	}
}

func TestTheSameListSavesTheSame(t *testing.T) {
	checkManyLists(t, func(t *testing.T, l []string) {
		m := compile(t, list(l...))
		first := m.Save()
		if !bytes.Equal(m.Save(), first) {
			t.Fatalf("P1: of %q: Save() asked twice answers otherwise", l)
		}
		if !bytes.Equal(compile(t, list(l...)).Save(), first) {
			t.Fatalf("P4: of %q: two machines of the same list save otherwise", l)
		}
	})
}
