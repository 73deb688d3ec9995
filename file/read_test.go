package file

import (
	"errors"
	"math"
	"slices"
	"strings"
	"testing"

	"scour/api"
)

func numberBytes(n int) []byte {
	w := &writer{}
	w.number(n)
	return w.b
}

// errnoOf asks for the fault that an error is, as whoever reads a file does.
func errnoOf(err error) api.Errno {
	var f Fault
	if errors.As(err, &f) {
		return f.Errno
	}
	return api.OK
}

func TestNumbersAreRead(t *testing.T) {
	for _, n := range []int{0, 1, 2, 126, 127, 128, 129, 255, 256, 300, 512, 513, 1<<14 - 1, 1 << 14, 1<<21 - 1, 1 << 21, 1<<28 - 1} {
		for _, most := range []int{n, n + 1, 2 * n, math.MaxInt} {
			r := &reader{append(numberBytes(n), "behind"...)}
			got := -1
			err := caught(func() { got = r.number(most) })
			if got != n || err != nil || string(r.left) != "behind" {
				t.Errorf("of %d, at most %d, there is read %d, %v; %q is left", n, most, got, err, r.left)
			}
		}
	}
}

func TestNumbersAreGivenUp(t *testing.T) {
	for _, k := range []struct {
		name string
		b    string
		most int
	}{
		{"nothing", "", math.MaxInt},
		{"no end", "\x80", math.MaxInt},
		{"no end behind several", "\xff\xff\xff", math.MaxInt},
		{"greater than may be", "\x01", 0},
		{"greater by one", "\x81\x04", 512},
		{"far greater", "\xff\xff\xff\x7f", 512},
		{"more than fit", "\x80\x80\x80\x80\x01", math.MaxInt},
		{"more than fit, low bits right", "\x81\x80\x80\x80\x80\x80\x80\x80\x80\x02", 512},
		{"very many", strings.Repeat("\x80", 1000) + "\x01", 512},
	} {
		r := &reader{[]byte(k.b)}
		if e := errnoOf(caught(func() { r.number(k.most) })); e != api.ErrForm {
			t.Errorf("%s: %d, want ErrForm", k.name, e)
		}
	}
}

func TestAFaultIsCaught(t *testing.T) {
	for _, e := range []api.Errno{api.ErrShort, api.ErrMagic, api.ErrVersion, api.ErrSum, api.ErrForm} {
		if got := errnoOf(caught(func() { panic(Fault{e}) })); got != e {
			t.Errorf("of %d there is caught %d", e, got)
		}
	}
	if err := caught(func() {}); err != nil {
		t.Errorf("of nothing there is caught %v", err)
	}
}

// goesUp tells what goes up out of a call.
func goesUp(call func()) (v any) {
	defer func() { v = recover() }()
	call()
	return nil
}

func TestNothingElseIsCaught(t *testing.T) {
	other := errors.New("another error")
	if v := goesUp(func() { caught(func() { panic(other) }) }); v != other {
		t.Errorf("of an error there goes up %v", v)
	}
	if v := goesUp(func() { caught(func() { panic("text") }) }); v != "text" {
		t.Errorf("of a text there goes up %v", v)
	}
	none := []int{}
	if v := goesUp(func() { caught(func() { none[len(none)]++ }) }); v == nil {
		t.Error("of a mistake of the program nothing goes up")
	}
}

func TestFaultsTellThemselvesApart(t *testing.T) {
	if a, b := (Fault{api.ErrSum}).Error(), (Fault{api.ErrForm}).Error(); a == b || a == "" {
		t.Errorf("two faults are told as %q and %q", a, b)
	}
}

func TestReadTellsThePatterns(t *testing.T) {
	for _, l := range [][]string{nil, {"a"}, {"he", "she", "hers"}, {"b", "a", "ab", "b"}, {"\x00\xff", "\xff", "\x00"}} {
		patterns, err := Read(fileOf(l...))
		if err != nil {
			t.Errorf("of %q: %v", l, err)
		}
		if !slices.EqualFunc(patterns, l, func(p []byte, text string) bool { return string(p) == text }) {
			t.Errorf("of %q there is read %q", l, patterns)
		}
	}
}

func TestReadTellsFaults(t *testing.T) {
	whole := string(fileOf("he", "she", "hers"))
	again := func(body string) string { return body + string(seal([]byte(body))) }
	for _, k := range []struct {
		name string
		b    string
		want api.Errno
	}{
		{"nothing", "", api.ErrShort},
		{"seven bytes", whole[:7], api.ErrShort},
		{"another magic", "T" + whole[1:], api.ErrMagic},
		{"another version", whole[:3] + "\x00" + whole[4:], api.ErrVersion},
		{"another sum", whole[:len(whole)-1] + "\x00", api.ErrSum},
		{"no classes", again("SCR\x01"), api.ErrForm},
		{"too many classes", again("SCR\x01\x81\x02" + strings.Repeat("a", 257) + "\x01\x00"), api.ErrForm},
		{"too many states", again("SCR\x01\x00\x82\x04" + strings.Repeat("\x00a\x00", 513) + "\x00"), api.ErrForm},
		{"a state behind itself", again("SCR\x01\x01a\x02\x01a\x00\x00"), api.ErrForm},
		{"a FAIL that is the state itself", again("SCR\x01\x01a\x02\x00a\x01\x00"), api.ErrForm},
		{"a pattern that is no state", again("SCR\x01\x01a\x02\x00a\x00\x01\x02"), api.ErrForm},
		{"a pattern that is no state behind one that is", again("SCR\x01\x01a\x02\x00a\x00\x02\x01\x02"), api.ErrForm},
		{"too many patterns", again("SCR\x01\x01a\x02\x00a\x00\x41" + strings.Repeat("\x01", 65)), api.ErrForm},
	} {
		patterns, err := Read([]byte(k.b))
		if e := errnoOf(err); e != k.want || patterns != nil {
			t.Errorf("%s: %q, %d, want nothing, %d", k.name, patterns, e, k.want)
		}
	}
}

// The patterns are missing; of some of these bodies the sum begins as if there were none.
func TestTheSumIsNotReadOn(t *testing.T) {
	tried := 0
	for classes := range 1 << 16 {
		body := []byte{'S', 'C', 'R', 1, 2, byte(classes >> 8), byte(classes), 1}
		end := seal(body)
		if end[0] != 0 {
			continue
		}
		tried++
		if patterns, err := Read(append(body, end...)); errnoOf(err) != api.ErrForm {
			t.Errorf("of %q and its sum there is read %q, %v", body, patterns, err)
		}
	}
	if tried == 0 {
		t.Error("there is no such sum")
	}
}
