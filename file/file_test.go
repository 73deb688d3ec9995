package file

import (
	"bytes"
	"math"
	"testing"

	"scour/pack"
	"scour/trie"
)

func TestNumbers(t *testing.T) {
	for _, k := range []struct {
		n    int
		want []byte
	}{
		{0, []byte{0}}, {1, []byte{1}}, {127, []byte{127}},
		{128, []byte{128, 1}}, {129, []byte{129, 1}}, {255, []byte{255, 1}}, {256, []byte{128, 2}}, {300, []byte{172, 2}},
		{16383, []byte{255, 127}}, {16384, []byte{128, 128, 1}}, {1<<21 - 1, []byte{255, 255, 127}}, {1 << 21, []byte{128, 128, 128, 1}},
		{math.MaxInt32, []byte{255, 255, 255, 255, 7}},
	} {
		w := &writer{}
		w.number(k.n)
		if !bytes.Equal(w.b, k.want) {
			t.Errorf("number %d is %d, want %d", k.n, w.b, k.want)
		}
	}
}

// What is left of a lone bit is the divisor, moved as far as the bit, till that goes over the edge.
func TestSumsWorkedOut(t *testing.T) {
	lone := uint32(0x00400007)
	for _, k := range []struct {
		b    string
		want uint32
	}{
		{"", 0}, {"\x00", 0}, {"\x00\x00\x00\x00\x00\x00\x00\x00", 0},
		{"\x01", lone}, {"\x00\x00\x01", lone}, {"\x02", lone << 1}, {"\x80", lone << 7}, {"\x03", lone<<1 ^ lone},
		{"\x01\x00", lone << 8}, {"\x02\x00", lone << 9}, {"\x04\x00", lone<<10 ^ lone}, {"\x08\x00", lone<<11 ^ lone<<1},
		{"SCR\x01\x00\x01\x00\x00\x00", 0xd217e5b7},
	} {
		if got := sum([]byte(k.b)); got != k.want {
			t.Errorf("sum of %q is %08x, want %08x", k.b, got, k.want)
		}
	}
}

func fileOf(patterns ...string) []byte {
	var l [][]byte
	for _, p := range patterns {
		l = append(l, []byte(p))
	}
	t := trie.New(l)
	return Write(t, pack.New(t))
}

// Bytes with their sum behind them are divided without rest.
func TestSealedFilesLeaveNothing(t *testing.T) {
	for _, b := range [][]byte{fileOf(), fileOf("a"), fileOf("he", "she", "hers"), fileOf("\x00\xff", "\xff")} {
		if left := sum(b); left != 0 {
			t.Errorf("of %q %08x is left", b, left)
		}
	}
}

func TestWrite(t *testing.T) {
	want := "SCR\x01" + "\x03abc" + "\x04\x00b\x00\x01a\x00\x01c\x00" + "\x02\x02\x03" + "\x00\x00\x00\x00" + "\x04\x00\x02\x02\x00\x02\x03"
	b := fileOf("ba", "bc")
	if got := string(b[:len(b)-4]); got != want {
		t.Errorf("the file is %q, want %q", got, want)
	}
}
