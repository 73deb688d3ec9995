package scour_test

import (
	"bytes"
	"math/rand"
	"slices"
	"testing"

	"scour/api"
	"scour/scour"
)

// errorByWords tells by the words whether bytes are refused ahead of being looked at closely, and why.
func errorByWords(b []byte) api.Errno {
	if len(b) < 8 {
		return api.ErrShort
	}
	if string(b[:3]) != "SCR" {
		return api.ErrMagic
	}
	if b[3] != 1 {
		return api.ErrVersion
	}
	if !bytes.Equal(b[len(b)-4:], sum(b[:len(b)-4])) {
		return api.ErrSum
	}
	return api.OK
}

// checkAny checks Load at any bytes: what it takes must be the file, by the words, of patterns that Compile takes.
func checkAny(t *testing.T, b []byte) {
	t.Helper()
	if want := errorByWords(b); want != api.OK {
		checkRefused(t, b, want)
		return
	}
	m, e := scour.Load(b)
	if e != api.OK {
		checkRefused(t, b, api.ErrForm)
		return
	}
	patterns := m.Patterns()
	compile(t, patterns)
	if !bytes.Equal(fileByWords(texts(patterns)), b) {
		t.Fatalf("P5: Load(%q) = OK, but the file of %q is another", shown(b), patterns)
	}
}

func TestEveryByteChanged(t *testing.T) {
	for _, l := range fewLists() {
		b := body(draftOf(l).pieces())
		for at := range b {
			for to := range 256 {
				checkAny(t, sealed(changed(b, at, byte(to))))
			}
		}
	}
}

func TestEveryNumberChanged(t *testing.T) {
	for _, l := range fewLists() {
		pieces := draftOf(l).pieces()
		for i, p := range pieces {
			if !p.isNumber {
				continue
			}
			for _, n := range []int{0, 1, 2, 3, 5, 8, 13, 63, 64, 65, 127, 128, 255, 256, 257, 511, 512, 513, 514, 1 << 14, 1 << 20, 1 << 31, 1 << 32, 1 << 62} {
				other := slices.Clone(pieces)
				other[i].b = number(n)
				checkAny(t, sealed(body(other)))
			}
		}
	}
}

func TestEveryPieceDroppedDoubledAndMoved(t *testing.T) {
	for _, l := range fewLists() {
		pieces := draftOf(l).pieces()
		for i, p := range pieces {
			checkAny(t, sealed(body(slices.Delete(slices.Clone(pieces), i, i+1))))
			checkAny(t, sealed(body(slices.Insert(slices.Clone(pieces), i, p))))
			for j := range i {
				other := slices.Clone(pieces)
				other[i], other[j] = other[j], other[i]
				checkAny(t, sealed(body(other)))
			}
		}
	}
}

// disturbed is bytes with some of them changed, dropped or put in.
func disturbed(r *rand.Rand, b []byte) []byte {
	b = bytes.Clone(b)
	for range 1 + r.Intn(3) {
		at := r.Intn(len(b))
		switch to := byte(r.Intn(256)); r.Intn(4) {
		case 0:
			b[at] = to
		case 1:
			b[at] += to%3 - 1
		case 2:
			b = slices.Insert(b, at, to%16)
		case 3:
			b = slices.Delete(b, at, at+1)
		}
		if len(b) == 0 {
			return b
		}
	}
	return b
}

func TestDisturbedFiles(t *testing.T) {
	r := rand.New(rand.NewSource(11))
	for _, l := range slices.Concat(fewLists(), drawnLists()) {
		file := fileByWords(l)
		for range 60 {
			checkAny(t, disturbed(r, file))
			checkAny(t, sealed(disturbed(r, file[:len(file)-4])))
			checkAny(t, sealed(append([]byte(head), disturbed(r, file[4:len(file)-4])...)))
		}
	}
}

func TestDisturbedFullFiles(t *testing.T) {
	r := rand.New(rand.NewSource(13))
	for name, l := range fullLists() {
		t.Run(name, func(t *testing.T) {
			file := compile(t, list(l...)).Save()
			for range 20 {
				checkAny(t, sealed(disturbed(r, file[:len(file)-4])))
			}
		})
	}
}

func TestDrawnBytes(t *testing.T) {
	r := rand.New(rand.NewSource(12))
	for n := range 100 {
		for range 100 {
			b := make([]byte, n)
			most := 1 << (1 + r.Intn(8))
			for i := range b {
				b[i] = byte(r.Intn(most))
			}
			checkAny(t, b)
			checkAny(t, sealed(b))
			checkAny(t, sealed(append([]byte(head), b...)))
		}
	}
}

// Of all bodies that are so short, with bytes out of a few, that of no patterns alone is one.
func TestAllShortBodies(t *testing.T) {
	taken := 0
	for _, w := range append(words("\x00\x01\x02\x80", 6), "") {
		b := sealed([]byte(head + w))
		checkAny(t, b)
		if m, _ := scour.Load(b); m != nil {
			taken++
		}
	}
	if taken != 1 {
		t.Errorf("P5: %d short files are read, want 1", taken)
	}
}
