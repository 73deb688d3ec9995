package scour_test

import (
	"bytes"
	"slices"
	"strings"
	"testing"

	"scour/api"
	"scour/scour"
)

func example() []string {
	return []string{"he", "she", "hers"}
}

// fewLists tells lists of which each draft of a file is changed in many ways.
func fewLists() [][]string {
	return [][]string{
		nil, {"a"}, {"b", "a", "b"}, {"aa"}, {"a", "a", "aa"}, {"ba", "bc"}, example(), {"ba", "bd", "ab", "c"}, {"aa", "ab", "ba", "aa"},
		{"\x00", "\xff\x00", "\x00\x00"}, {"\x80\x01\x80", "\x01"}, {"abcabd", "bca", "cab", "d"},
	}
}

// shown is as much of bytes as one cares to read.
func shown(b []byte) []byte {
	return b[:min(len(b), 200)]
}

func load(t *testing.T, b []byte) *scour.Machine {
	t.Helper()
	m, e := scour.Load(b)
	if m == nil || e != api.OK {
		t.Fatalf("P5: Load(%q) = %v, %d, want a machine, OK", shown(b), m, e)
	}
	return m
}

func checkRefused(t *testing.T, b []byte, want api.Errno) {
	t.Helper()
	m, e := scour.Load(b)
	if e != want {
		t.Fatalf("P5: Load(%q) = %d, want %d", shown(b), e, want)
	}
	if m != nil {
		t.Fatalf("P1: Load(%q): a machine beside the error %d", shown(b), e)
	}
}

// changed is bytes with one of them changed.
func changed(b []byte, at int, to byte) []byte {
	b = bytes.Clone(b)
	b[at] = to
	return b
}

func TestLoadOfTheExamples(t *testing.T) {
	m := load(t, []byte("SCR\x01\x04ehrs\x08\x00h\x00\x00s\x00\x01e\x00\x02h\x01\x03r\x00\x04e\x03\x05s\x02\x03\x03\x06\x07\x00\x00\x00\x00\x03\x01\x03\x05\x08\x00\x02\x03\x03\x04\x04\x05\x05\x06\x06\x07\x07\x05\x08\x04\x7c\xcf\xfb\x15"))
	if got := texts(m.Patterns()); !slices.Equal(got, example()) {
		t.Errorf("P5: Patterns() = %q, want %q", got, example())
	}
	if n := m.States(); n != 8 {
		t.Errorf("P5: States() = %d, want 8", n)
	}
	if n, e := m.Next(6, 'r'); n != 5 || e != api.OK {
		t.Errorf("P5: Next(6, 'r') = %d, %d, want 5, OK", n, e)
	}
	m = load(t, []byte("SCR\x01\x00\x01\x00\x00\x00\xd2\x17\xe5\xb7"))
	if len(m.Patterns()) != 0 || m.States() != 1 {
		t.Errorf("P5: of no patterns: Patterns() = %q, States() = %d", m.Patterns(), m.States())
	}
}

func TestLoadedMachinesTellTheSame(t *testing.T) {
	checkManyLists(t, func(t *testing.T, l []string) {
		m := compile(t, list(l...))
		again := load(t, m.Save())
		if again.States() != m.States() || !ask(again).equal(ask(m)) {
			t.Fatalf("P9: of %q: what is saved and loaded tells otherwise", l)
		}
		if most := len(strings.Join(l, "")) + 1; again.States() > most {
			t.Fatalf("P9: of %q: States() = %d, which is more than %d", l, again.States(), most)
		}
		checkNoSuchState(t, again)
	})
}

func TestFilesByTheWordsAreRead(t *testing.T) {
	for _, l := range slices.Concat(fewLists(), drawnLists()) {
		if got := texts(load(t, fileByWords(l)).Patterns()); !slices.Equal(got, l) {
			t.Errorf("P5: of %q: Patterns() = %q", l, got)
		}
	}
}

func TestLoadOfTooFewBytes(t *testing.T) {
	checkRefused(t, nil, api.ErrShort)
	for _, b := range [][]byte{
		fileByWords(nil), fileByWords(example()), make([]byte, 8), bytes.Repeat([]byte{255}, 8), []byte("SCX\x01\x00\x01\x00\x00"), []byte("SCR\x02\x00\x01\x00\x00"),
	} {
		for n := range 8 {
			checkRefused(t, b[:n], api.ErrShort)
			checkRefused(t, bytes.Clone(b[:n]), api.ErrShort)
		}
	}
	for n := range 4 {
		checkRefused(t, sealed([]byte(head[:n])), api.ErrShort)
	}
}

func TestEightBytesAreEnoughToBeLookedAt(t *testing.T) {
	checkRefused(t, make([]byte, 8), api.ErrMagic)
	checkRefused(t, []byte("SCR\x00\x00\x00\x00\x00"), api.ErrVersion)
	checkRefused(t, []byte("SCR\x01\x00\x00\x00\x00"), api.ErrSum)
	checkRefused(t, sealed([]byte(head)), api.ErrForm)
}

func TestLoadOfOtherHeads(t *testing.T) {
	for _, l := range fewLists() {
		file := fileByWords(l)
		body := file[:len(file)-4]
		for at, want := range []api.Errno{api.ErrMagic, api.ErrMagic, api.ErrMagic, api.ErrVersion} {
			for b := range 256 {
				if byte(b) == head[at] {
					continue
				}
				checkRefused(t, changed(file, at, byte(b)), want)
				checkRefused(t, sealed(changed(body, at, byte(b))), want)
			}
		}
	}
}

func TestLoadOfOtherSums(t *testing.T) {
	for _, l := range fewLists() {
		file := fileByWords(l)
		end := len(file) - 4
		for at := end; at < len(file); at++ {
			for b := range 256 {
				if byte(b) != file[at] {
					checkRefused(t, changed(file, at, byte(b)), api.ErrSum)
				}
			}
		}
		body, right := file[:end], file[end:]
		turned := slices.Clone(right)
		slices.Reverse(turned)
		for _, wrong := range [][]byte{turned, make([]byte, 4), sum(body[4:]), sum(file), sum(body[:end-1])} {
			checkRefused(t, slices.Concat(body, wrong), api.ErrSum)
		}
	}
}

// wrongInAllWays tells bytes for every choice of what is wrong with them, with the error that is named first; OK, if nothing is.
func wrongInAllWays() map[string]api.Errno {
	all := map[string]api.Errno{}
	for ways := range 16 {
		magic, version, total, form := ways&1 != 0, ways&2 != 0, ways&4 != 0, ways&8 != 0
		want := api.OK
		b := body(draftOf(example()).pieces())
		if form {
			b, want = append(b, 0), api.ErrForm
		}
		if version {
			b[3] = 2
		}
		if magic {
			b[1] = 'c'
		}
		b = sealed(b)
		if total {
			b[len(b)-1] ^= 1
			want = api.ErrSum
		}
		if version {
			want = api.ErrVersion
		}
		if magic {
			want = api.ErrMagic
		}
		all[string(b)] = want
	}
	return all
}

func TestOfSeveralErrorsTheFirst(t *testing.T) {
	for b, want := range wrongInAllWays() {
		if want == api.OK {
			load(t, []byte(b))
			continue
		}
		checkRefused(t, []byte(b), want)
		checkRefused(t, []byte(b[:7]), api.ErrShort)
	}
}
