package scour_test

import (
	"bytes"
	"math/rand"
	"slices"
	"testing"

	"scour/api"
	"scour/scour"
)

// flipped is a file with bits changed: those of a burst that are 1, of which the highest falls on the bit with that number; bits are numbered as the sum goes through them.
func flipped(file []byte, from int, burst uint32) []byte {
	b := bytes.Clone(file)
	for i := range 32 {
		if burst<<i>>31 == 1 {
			at := from + i
			b[at/8] ^= 128 >> (at % 8)
		}
	}
	return b
}

// checkBroken checks that a changed file is refused: by its head, if the change is there, else by its sum.
func checkBroken(t *testing.T, b []byte, from int, burst uint32) {
	t.Helper()
	m, e := scour.Load(b)
	if m != nil || e == api.OK {
		t.Fatalf("P8: a file with the bits %032b changed from bit %d on is read: %q", burst, from, shown(b))
	}
	want := api.ErrSum
	if string(b[:3]) != head[:3] {
		want = api.ErrMagic
	} else if b[3] != head[3] {
		want = api.ErrVersion
	}
	if e != want {
		t.Fatalf("P5: with the bits %032b changed from bit %d on: Load = %d, want %d", burst, from, e, want)
	}
}

// bursts calls with every place of one bit and of two within 32, and with so many drawn ones at each place. The last places have room for fewer bits.
func bursts(r *rand.Rand, bits, drawn int, call func(from int, burst uint32)) {
	for from := range bits {
		room := min(32, bits-from)
		call(from, 1<<31)
		for second := 1; second < room; second++ {
			call(from, 1<<31|1<<(31-second))
		}
		for range drawn {
			call(from, 1<<31|r.Uint32()>>(32-room)<<(32-room))
		}
		call(from, ^uint32(0)>>(32-room)<<(32-room))
	}
}

func TestBurstsAreRefused(t *testing.T) {
	r := rand.New(rand.NewSource(21))
	for _, l := range fewLists() {
		file := compile(t, list(l...)).Save()
		bursts(r, 8*len(file), 60, func(from int, burst uint32) {
			checkBroken(t, flipped(file, from, burst), from, burst)
		})
	}
}

func TestDrawnBurstsOfFullFilesAreRefused(t *testing.T) {
	r := rand.New(rand.NewSource(22))
	for name, l := range fullLists() {
		t.Run(name, func(t *testing.T) {
			file := compile(t, list(l...)).Save()
			for range 100 {
				from, burst := r.Intn(8*len(file)-31), 1<<31|r.Uint32()
				checkBroken(t, flipped(file, from, burst), from, burst)
			}
		})
	}
}

// The divisor itself, moved anywhere, is the shortest change that a sum can't see: 33 bits.
func TestALongerChangeMayKeepTheSum(t *testing.T) {
	file := compile(t, list("ab")).Save()
	from := 8 * 5
	b := flipped(file, from, 1<<31|1<<(31-10)|1<<(31-30)|1<<(31-31))
	b[from/8+4] ^= 128
	checkRefused(t, b, api.ErrForm)
}

func checkBeginning(t *testing.T, file []byte, n int) {
	t.Helper()
	for _, b := range [][]byte{file[:n], slices.Clone(file[:n])} {
		if m, e := scour.Load(b); m != nil || e == api.OK {
			t.Fatalf("P8: %d bytes of %d are read: %q", n, len(file), shown(b))
		}
	}
}

func TestBeginningsAreRefused(t *testing.T) {
	for _, l := range slices.Concat(fewLists(), drawnLists()) {
		file := compile(t, list(l...)).Save()
		for n := range file {
			checkBeginning(t, file, n)
		}
	}
}

func TestBeginningsOfFullFilesAreRefused(t *testing.T) {
	r := rand.New(rand.NewSource(23))
	for name, l := range fullLists() {
		t.Run(name, func(t *testing.T) {
			file := compile(t, list(l...)).Save()
			for n := len(file) - 40; n < len(file); n++ {
				checkBeginning(t, file, n)
			}
			for range 60 {
				checkBeginning(t, file, r.Intn(len(file)))
			}
		})
	}
}
