package scour_test

import (
	"bytes"
	"math/rand"
	"slices"
	"strings"
	"sync"
	"testing"

	"scour/api"
	"scour/scour"
)

// feeding is a scanner with what is still to be fed to it, and what it is to tell.
type feeding struct {
	scanner  *scour.Scanner
	patterns []string
	text     string
	want     []api.Match
	from     int
}

func feedingOf(t *testing.T, m *scour.Machine, patterns []string, text string) *feeding {
	t.Helper()
	return &feeding{begun(t, m), patterns, text, toldByWords(patterns, text), 0}
}

func (f *feeding) done() bool {
	return f.from == len(f.text)
}

// feed checks what the next bytes tell, which must be those of piece, and hands on the list that came out.
func (f *feeding) feed(t *testing.T, piece []byte) []api.Match {
	t.Helper()
	to := f.from + len(piece)
	got := f.scanner.Feed(piece)
	if want := within(f.want, f.from, to); !slices.Equal(got, want) {
		t.Fatalf("P1, P6: of %q: behind %q, Feed(%q) = %v, want %v", f.patterns, f.text[:f.from], f.text[f.from:to], got, want)
	}
	f.from = to
	return got
}

// piece is some of the bytes that are left, in memory of their own.
func (f *feeding) piece(r *rand.Rand) []byte {
	return []byte(f.text[f.from:][:r.Intn(min(8, len(f.text)-f.from)+1)])
}

// scanned feeds drawn texts to a scanner of each of many lists; each piece goes through call, which feeds it.
func scanned(t *testing.T, seed int64, call func(f *feeding, m *scour.Machine, piece []byte)) {
	t.Helper()
	r := rand.New(rand.NewSource(seed))
	for _, l := range memoryLists() {
		for _, m := range machines(t, l) {
			f := feedingOf(t, m, l, drawnText(r, l, 60))
			for !f.done() {
				call(f, m, f.piece(r))
			}
		}
	}
}

func TestFeedWritesIntoNothing(t *testing.T) {
	scanned(t, 51, func(f *feeding, m *scour.Machine, piece []byte) {
		in, array := laid(piece)
		before := bytes.Clone(array)
		f.feed(t, in)
		if !bytes.Equal(array, before) {
			t.Fatalf("P1: of %q: Feed(%q) wrote into the bytes or what is around them", f.patterns, piece)
		}
	})
}

func TestNothingFedIsKept(t *testing.T) {
	// All pieces come in the same memory, which is written into between two calls.
	var memory [64]byte
	scanned(t, 52, func(f *feeding, m *scour.Machine, piece []byte) {
		in := memory[:copy(memory[:], piece)]
		f.feed(t, in)
		for i := range memory {
			memory[i] ^= 0x55
		}
	})
}

// spoil writes into a list and its spare room.
func spoil(told []api.Match) {
	told = told[:cap(told)]
	for i := range told {
		told[i] = api.Match{Pattern: -1, End: -1}
	}
}

func TestListsThatAreToldAreTheCallers(t *testing.T) {
	scanned(t, 53, func(f *feeding, m *scour.Machine, piece []byte) {
		told := f.feed(t, piece)
		spoil(told)
		_ = append(told[:len(told)/2], api.Match{Pattern: -2, End: -2}, api.Match{Pattern: -3, End: -3})
	})
}

func TestListsThatAreToldStay(t *testing.T) {
	r := rand.New(rand.NewSource(54))
	for _, l := range memoryLists() {
		m := compile(t, list(l...))
		f, other := feedingOf(t, m, l, drawnText(r, l, 60)), feedingOf(t, m, l, drawnText(r, l, 60))
		var kept, copies [][]api.Match
		for !f.done() {
			told := f.feed(t, f.piece(r))
			kept, copies = append(kept, told), append(copies, slices.Clone(told))
			spoil(other.feed(t, other.piece(r)))
		}
		if !slices.EqualFunc(kept, copies, slices.Equal) {
			t.Fatalf("P1: of %q: lists that came out are %v, but were %v", l, kept, copies)
		}
	}
}

func TestNoTwoToldListsShareMemory(t *testing.T) {
	for _, l := range memoryLists() {
		m := compile(t, list(l...))
		s, text := begun(t, m), []byte(strings.Join(l, ""))
		all := [][]api.Match{s.Feed(text), s.Feed(text), begun(t, m).Feed(text), s.Feed(nil), s.Feed(text)}
		for i, told := range all {
			told = told[:cap(told)]
			for k := range told {
				told[k].Pattern = i
			}
		}
		for i, told := range all {
			for _, x := range told[:cap(told)] {
				if x.Pattern != i {
					t.Fatalf("P1: of %q: list %d shares memory with list %d", l, i, x.Pattern)
				}
			}
		}
	}
}

// byTurns feeds several scanners, a piece to a drawn one each time, till nothing is left.
func byTurns(t *testing.T, r *rand.Rand, all []*feeding) {
	t.Helper()
	for len(all) > 0 {
		i := r.Intn(len(all))
		all[i].feed(t, all[i].piece(r))
		if all[i].done() {
			all = slices.Delete(all, i, i+1)
		}
	}
}

func TestScannersOfOneMachineByTurns(t *testing.T) {
	r := rand.New(rand.NewSource(55))
	for _, l := range memoryLists() {
		for _, m := range machines(t, l) {
			var all []*feeding
			for range 4 {
				all = append(all, feedingOf(t, m, l, drawnText(r, l, 60)))
			}
			byTurns(t, r, all)
		}
	}
}

func TestScannersOfSeveralMachinesByTurns(t *testing.T) {
	r := rand.New(rand.NewSource(56))
	lists := memoryLists()
	for range 100 {
		var all []*feeding
		for range 4 {
			l := lists[r.Intn(len(lists))]
			for _, m := range machines(t, l) {
				all = append(all, feedingOf(t, m, l, drawnText(r, l, 40)))
			}
		}
		byTurns(t, r, all)
	}
}

func TestAScannerBeginsWithNothing(t *testing.T) {
	m := compile(t, list(example()...))
	first := begun(t, m)
	checkFed(t, first, "sh", "")
	second := begun(t, m)
	checkFed(t, second, "e", "")
	checkFed(t, second, "he", "0@3")
	checkFed(t, first, "e", "1@3 0@3")
	checkFed(t, begun(t, m), "rs", "")
	checkFed(t, first, "rs", "2@5")
	checkFed(t, second, "rs", "2@5")
}

func TestOtherCallsBetweenFeeds(t *testing.T) {
	scanned(t, 57, func(f *feeding, m *scour.Machine, piece []byte) {
		f.feed(t, piece)
		for _, p := range m.Patterns() {
			fill(p, 'z')
		}
		m.Next(m.States()-1, 'a')
		m.Next(m.States(), 'a')
		m.Next(0, 'b')
		file := m.Save()
		begun(t, load(t, file)).Feed([]byte("abcabc"))
		fill(file, 'z')
		scour.Load(file)
		begun(t, m).Feed([]byte("abcabc"))
		begun(t, compile(t, list("ab", "b", "c"))).Feed([]byte("abcabc"))
	})
}

func TestScanAndFeedChangeNoMachine(t *testing.T) {
	for _, l := range memoryLists() {
		for _, m := range machines(t, l) {
			before := ask(m)
			s := begun(t, m)
			for _, text := range slices.Concat(l, []string{"", "\x00\xff", "anything", strings.Join(l, "")}) {
				spoil(s.Feed([]byte(text)))
			}
			if !ask(m).equal(before) {
				t.Fatalf("P1: of %q: Feed changed the machine", l)
			}
		}
	}
}

// What is handed in to Compile and Load is written into while a scanner goes on.
func TestScannersKeepNothingHandedIn(t *testing.T) {
	r := rand.New(rand.NewSource(58))
	for _, l := range memoryLists() {
		in, all, array := embedded(list(l...))
		file, around := laid(fileByWords(l))
		compiled, loaded := compile(t, in), load(t, file)
		feeds := []*feeding{feedingOf(t, compiled, l, drawnText(r, l, 60)), feedingOf(t, loaded, l, drawnText(r, l, 60))}
		for _, f := range feeds {
			f.feed(t, f.piece(r))
		}
		fill(array, 'z')
		fill(around, 'z')
		clear(all)
		feeds = append(feeds, feedingOf(t, compiled, l, drawnText(r, l, 60)), feedingOf(t, loaded, l, drawnText(r, l, 60)))
		byTurns(t, r, slices.DeleteFunc(feeds, (*feeding).done))
	}
}

// checkAnyBytes feeds drawn bytes; what is told must be of a pattern that is there and of a byte that has just come.
func checkAnyBytes(t *testing.T, patterns []string) {
	t.Helper()
	r := rand.New(rand.NewSource(59))
	s := begun(t, compile(t, list(patterns...)))
	count := 0
	for range 20 {
		b := make([]byte, r.Intn(2000))
		r.Read(b)
		for _, x := range s.Feed(b) {
			if x.Pattern < 0 || x.Pattern >= len(patterns) || x.End <= count || x.End > count+len(b) {
				t.Fatalf("P6: of %q: behind %d bytes, %d bytes tell %v", patterns, count, len(b), x)
			}
		}
		count += len(b)
	}
}

func TestFeedTakesAnyBytes(t *testing.T) {
	for _, l := range slices.Concat(fewLists(), drawnLists()) {
		checkAnyBytes(t, l)
	}
	for name, l := range scanLists() {
		t.Run(name, func(t *testing.T) { checkAnyBytes(t, l) })
	}
}

func TestEveryPairOfBytes(t *testing.T) {
	l := []string{"\x00\xff", "\xff\x00", "\x7f\x80", "\x80", "\x00\x00", "\xff\xff"}
	m := compile(t, list(l...))
	for a := range 256 {
		for b := range 256 {
			checkScan(t, m, l, string([]byte{byte(a), byte(b)}))
		}
	}
}

func TestScannersOfOneMachineAtOnce(t *testing.T) {
	for name, l := range scanLists() {
		t.Run(name, func(t *testing.T) {
			m, text := compile(t, list(l...)), strings.Join(l, "")
			want := toldByWords(l, text)
			same := make([]bool, 8)
			var all sync.WaitGroup
			for i := range same {
				all.Go(func() {
					var told []api.Match
					s := m.Scan()
					for piece := range slices.Chunk([]byte(text), 1+i) {
						told = append(told, s.Feed(piece)...)
					}
					same[i] = slices.Equal(told, want)
				})
			}
			all.Wait()
			if slices.Contains(same, false) {
				t.Error("P1: scanners tell otherwise where several are fed at once")
			}
		})
	}
}
