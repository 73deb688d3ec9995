package scour_test

import (
	"bytes"
	"slices"
	"sync"
	"testing"

	"scour/api"
	"scour/scour"
)

// laid puts bytes into an array with others ahead of them and behind. What it tells is the bytes, with room behind them, and the array.
func laid(b []byte) (in, array []byte) {
	array = slices.Concat([]byte("<ahead>"), b, []byte("<behind, as much as any file asks for>"))
	return array[len("<ahead>"):][:len(b)], array
}

// anyFiles tells files that are read, and bytes that are refused for each reason.
func anyFiles() map[string]api.Errno {
	all := wrongInAllWays()
	for _, l := range memoryLists() {
		b := fileByWords(l)
		all[string(b)] = api.OK
		all[string(b[:7])] = api.ErrShort
		all[string(sealed(b))] = api.ErrForm
	}
	return all
}

func TestLoadWritesIntoNothing(t *testing.T) {
	for b, want := range anyFiles() {
		in, array := laid([]byte(b))
		before := bytes.Clone(array)
		if _, e := scour.Load(in); e != want {
			t.Fatalf("P5: Load(%q) = %d, want %d", b, e, want)
		}
		if !bytes.Equal(array, before) {
			t.Fatalf("P1: Load(%q) wrote into the bytes or what is around them", b)
		}
	}
}

func TestNothingLoadedIsKept(t *testing.T) {
	for _, l := range memoryLists() {
		in, array := laid(fileByWords(l))
		m := load(t, in)
		// The machine is asked nothing ahead of the writing: an answer might else be kept from then.
		for i := range array {
			array[i] ^= 0x55
		}
		if !ask(m).equal(ask(compile(t, list(l...)))) {
			t.Fatalf("P1: of %q: bytes of the file that was handed in are kept", l)
		}
		clear(array)
		if !ask(m).equal(ask(compile(t, list(l...)))) {
			t.Fatalf("P1: of %q: bytes of the file that was handed in are kept", l)
		}
	}
}

func TestLoadedMachinesHaveNothingToDoWithOneAnother(t *testing.T) {
	file := fileByWords(example())
	first := load(t, file)
	want := ask(first)
	second := load(t, file)
	for _, p := range second.Patterns() {
		fill(p, 'z')
	}
	fill(second.Save(), 'z')
	load(t, fileByWords([]string{"other", "patterns"}))
	checkRefused(t, sealed([]byte(head)), api.ErrForm)
	for _, m := range []*scour.Machine{first, second, load(t, file)} {
		if !ask(m).equal(want) {
			t.Error("P1: a machine tells otherwise behind the calls of another")
		}
	}
}

func TestOneFileServesManyAtOnce(t *testing.T) {
	file := fileByWords(example())
	want := ask(load(t, file))
	same := make([]bool, 8)
	var all sync.WaitGroup
	for i := range same {
		all.Go(func() {
			m, e := scour.Load(file)
			same[i] = e == api.OK && ask(m).equal(want)
		})
	}
	all.Wait()
	if slices.Contains(same, false) {
		t.Error("P1: answers differ where several load at once")
	}
}
