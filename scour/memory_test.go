package scour_test

import (
	"bytes"
	"slices"
	"strings"
	"sync"
	"testing"
	"unsafe"

	"scour/api"
	"scour/scour"
)

// header is what a list is, but for its bytes: where they are, how many, and how many there is room for.
type header struct {
	data     *byte
	len, cap int
}

func headers(patterns [][]byte) []header {
	var all []header
	for _, p := range patterns {
		all = append(all, header{unsafe.SliceData(p), len(p), cap(p)})
	}
	return all
}

// embedded lays patterns one behind the other into one array, with bytes between and behind them, in a list with more lists behind it. What it tells is the list, all of the list, and the array.
func embedded(patterns [][]byte) (l, all [][]byte, array []byte) {
	for _, p := range patterns {
		array = append(array, p...)
		array = append(array, "<spare>"...)
	}
	at := 0
	for _, p := range patterns {
		all = append(all, array[at:at+len(p)])
		at += len(p) + len("<spare>")
	}
	all = append(all, array, nil, array[:0])
	return all[:len(patterns)], all, array
}

func TestCompileWritesIntoNothing(t *testing.T) {
	for _, k := range compileCases() {
		l, all, array := embedded(k.patterns)
		listsBefore, bytesBefore := headers(all), bytes.Clone(array)
		if _, e, at := scour.Compile(l); e != k.e || at != k.at {
			t.Errorf("P2: %s: Compile = %d, %d, want %d, %d", k.name, e, at, k.e, k.at)
		}
		if !slices.Equal(headers(all), listsBefore) {
			t.Errorf("P1: %s: Compile wrote into the list of patterns or what is behind it", k.name)
		}
		if !bytes.Equal(array, bytesBefore) {
			t.Errorf("P1: %s: Compile wrote into a pattern or what is behind it", k.name)
		}
	}
}

// answers is all that a machine tells.
type answers struct {
	patterns []string
	next     []int
	told     []api.Match
	file     string
}

func ask(m *scour.Machine) answers {
	a := askUnsaved(m)
	a.file = string(m.Save())
	return a
}

// askUnsaved asks all but for the file, of a machine that may never have been saved.
func askUnsaved(m *scour.Machine) answers {
	a := answers{patterns: texts(m.Patterns())}
	a.told = m.Scan().Feed([]byte(strings.Join(a.patterns, "") + strings.Join(a.patterns, "a")))
	for state := range m.States() {
		for b := range 256 {
			n, _ := m.Next(state, byte(b))
			a.next = append(a.next, n)
		}
	}
	return a
}

func (a answers) equal(b answers) bool {
	return slices.Equal(a.patterns, b.patterns) && slices.Equal(a.next, b.next) && slices.Equal(a.told, b.told) && a.file == b.file
}

func memoryLists() [][]string {
	return append(drawnLists(), nil, []string{"a"}, []string{"he", "she", "hers"}, []string{"ab", "ab", "a", "b"})
}

func TestNothingHandedInIsKept(t *testing.T) {
	for _, texts := range memoryLists() {
		l, all, array := embedded(list(texts...))
		m := compile(t, l)
		before := ask(m)
		for i := range array {
			array[i] ^= 0x55
		}
		if !ask(m).equal(before) {
			t.Fatalf("P1: of %q: bytes of patterns that were handed in are kept", texts)
		}
		for i := range all {
			all[i] = []byte("other")
		}
		if !ask(m).equal(before) {
			t.Fatalf("P1: of %q: the list that was handed in is kept", texts)
		}
	}
}

// fill writes into a list's bytes and its spare room.
func fill(p []byte, b byte) {
	p = p[:cap(p)]
	for i := range p {
		p[i] = b
	}
}

func TestListsThatComeOutAreTheCallers(t *testing.T) {
	for _, texts := range memoryLists() {
		checkListsAreTheCallers(t, texts, compile(t, list(texts...)))
		checkListsAreTheCallers(t, texts, load(t, fileByWords(texts)))
	}
}

func checkListsAreTheCallers(t *testing.T, texts []string, m *scour.Machine) {
	t.Helper()
	before := ask(m)
	out := m.Patterns()
	for _, p := range out {
		fill(p, 'z')
	}
	if !ask(m).equal(before) {
		t.Fatalf("P1: of %q: writing into patterns that came out changed later answers", texts)
	}
	out = out[:cap(out)]
	for i := range out {
		out[i] = []byte("other")
	}
	if !ask(m).equal(before) {
		t.Fatalf("P1: of %q: writing into a list that came out changed later answers", texts)
	}
	fill(m.Save(), 'z')
	if !ask(m).equal(before) {
		t.Fatalf("P1: of %q: writing into a file that came out changed later answers", texts)
	}
}

func TestAFileThatCameOutStays(t *testing.T) {
	m := compile(t, list("he", "she", "hers"))
	out := m.Save()
	before := bytes.Clone(out)
	fill(m.Save(), 'z')
	ask(m)
	compile(t, list("other", "patterns")).Save()
	if !bytes.Equal(out, before) {
		t.Error("P1: a file that came out was changed by later calls")
	}
}

func TestSaveChangesNothing(t *testing.T) {
	for _, texts := range memoryLists() {
		m := compile(t, list(texts...))
		before := askUnsaved(m)
		m.Save()
		if !askUnsaved(m).equal(before) {
			t.Fatalf("P1: of %q: Save changed what Patterns, States and Next tell", texts)
		}
	}
}

func TestNoTwoListsShareMemory(t *testing.T) {
	for _, texts := range append(memoryLists(), slices.Repeat([]string{"ab"}, api.MaxPatterns)) {
		m := compile(t, list(texts...))
		// Two answers of each call at once: each is new memory, so theirs is not shared either.
		all := slices.Concat(m.Patterns(), [][]byte{m.Save()}, m.Patterns(), [][]byte{m.Save()})
		for i, p := range all {
			fill(p, byte(i))
		}
		for i, p := range all {
			if whole := p[:cap(p)]; bytes.Count(whole, []byte{byte(i)}) != len(whole) {
				t.Fatalf("P1: of %q: list %d shares memory with another", texts, i)
			}
		}
	}
}

func TestTwoAnswersAreTwoLists(t *testing.T) {
	m := compile(t, list("a", "b"))
	first, second := m.Patterns(), m.Patterns()
	first[0], first[1] = nil, nil
	if got := texts(second); !slices.Equal(got, []string{"a", "b"}) {
		t.Errorf("P1: writing into one answer made another %q", got)
	}
}

func TestNoCallChangesAMachine(t *testing.T) {
	for _, texts := range memoryLists() {
		m := compile(t, list(texts...))
		before := ask(m)
		checkNoSuchState(t, m)
		scour.Compile(list("other", "patterns"))
		scour.Compile(list("other", ""))
		scour.Load(fileByWords([]string{"other", "patterns"}))
		scour.Load([]byte("no file"))
		if !ask(m).equal(before) {
			t.Fatalf("P1: of %q: a call changed the machine", texts)
		}
	}
}

func TestOneMachineServesManyAtOnce(t *testing.T) {
	m := compile(t, list("he", "she", "hers"))
	want := ask(m)
	same := make([]bool, 8)
	var all sync.WaitGroup
	for i := range same {
		all.Go(func() { same[i] = ask(m).equal(want) })
	}
	all.Wait()
	if slices.Contains(same, false) {
		t.Error("P1: answers differ where several ask at once")
	}
}
