package scour_test

import (
	"bytes"
	"slices"
	"strings"
	"testing"

	"scour/api"
	"scour/scour"
)

// fault is a way in which bytes with the right sum are no file. It tells such bytes, made of the file of patterns.
type fault struct {
	name  string
	files func(patterns []string) [][]byte
}

func faults() []fault {
	return []fault{
		{"a NUMBER with more bytes than it needs", numbersWithMoreBytes},
		{"a NUMBER that does not end", numbersWithoutEnd},
		{"a NUMBER of very many bytes", numbersOfManyBytes},
		{"a NUMBER that is right but for its highest bit", numbersWithAHighBit},
		{"another count", otherCounts},
		{"bytes too many", bytesTooMany},
		{"bytes too few", bytesTooFew},
		{"classes in another order", classesInAnotherOrder},
		{"a class that stands in no pattern", classesTooMany},
		{"a class is missing", classesTooFew},
		{"states in another order", statesInAnotherOrder},
		{"a state twice", statesTwice},
		{"a state behind one that comes later", statesBehindLaterOnes},
		{"a state that is no beginning of a pattern", statesTooMany},
		{"another FAIL", otherFails},
		{"a pattern that is no state, or state 0", otherPatterns},
		{"another offset", otherOffsets},
		{"a row at another place", rowsElsewhere},
		{"another cell", otherCells},
		{"a cell more at the end, or one fewer", otherLastCells},
	}
}

func TestWhatIsNoFile(t *testing.T) {
	for _, f := range faults() {
		t.Run(f.name, func(t *testing.T) {
			tried := 0
			for _, l := range fewLists() {
				right := fileByWords(l)
				for _, b := range f.files(l) {
					if bytes.Equal(b, right) {
						t.Fatalf("the test has nothing wrong to try with %q", l)
					}
					checkRefused(t, b, api.ErrForm)
					tried++
				}
			}
			if tried < len(fewLists()) {
				t.Errorf("the test tries only %d files", tried)
			}
		})
	}
}

// edited is the file of patterns, changed in its parts.
func edited(patterns []string, edit func(d *draft)) []byte {
	d := draftOf(patterns)
	edit(&d)
	return d.file()
}

// withNumbers tells, for each NUMBER of a file, the file with that one written otherwise.
func withNumbers(patterns []string, write func(b []byte) []byte) [][]byte {
	var files [][]byte
	pieces := draftOf(patterns).pieces()
	for i, p := range pieces {
		if p.isNumber {
			other := slices.Clone(pieces)
			other[i].b = write(slices.Clone(p.b))
			files = append(files, sealed(body(other)))
		}
	}
	return files
}

func numbersWithMoreBytes(patterns []string) [][]byte {
	var files [][]byte
	for _, more := range []int{1, 2, 3, 8, 9, 10, 100} {
		files = append(files, withNumbers(patterns, func(b []byte) []byte {
			b[len(b)-1] |= 128
			b = append(b, bytes.Repeat([]byte{128}, more-1)...)
			return append(b, 0)
		})...)
	}
	return files
}

func numbersWithoutEnd(patterns []string) [][]byte {
	var files [][]byte
	pieces := draftOf(patterns).pieces()
	for i, p := range pieces {
		if !p.isNumber {
			continue
		}
		for _, more := range []int{0, 1, 9, 100} {
			b := append(body(pieces[:i]), p.b...)
			b[len(b)-1] |= 128
			files = append(files, sealed(append(b, bytes.Repeat([]byte{128}, more)...)))
			files = append(files, sealed(append(b, bytes.Repeat([]byte{255}, more)...)))
		}
	}
	return files
}

func numbersOfManyBytes(patterns []string) [][]byte {
	var files [][]byte
	for _, many := range []int{5, 9, 10, 11, 100} {
		for _, last := range []byte{1, 127} {
			for _, each := range []byte{128, 255} {
				files = append(files, withNumbers(patterns, func([]byte) []byte {
					return append(bytes.Repeat([]byte{each}, many), last)
				})...)
			}
		}
	}
	return files
}

// withBit is a NUMBER (of less than that) and two to a power together.
func withBit(b []byte, power int) []byte {
	b = slices.Clone(b)
	for len(b) <= power/7 {
		b[len(b)-1] |= 128
		b = append(b, 0)
	}
	b[power/7] |= 1 << (power % 7)
	return b
}

func numbersWithAHighBit(patterns []string) [][]byte {
	var files [][]byte
	for _, power := range []int{14, 15, 16, 27, 28, 31, 32, 35, 63, 64, 70, 128, 256} {
		files = append(files, withNumbers(patterns, func(b []byte) []byte { return withBit(b, power) })...)
	}
	return files
}

// counts tells which pieces say how many there are of something.
func (d draft) counts() []int {
	states := 1 + len(d.classes)
	patterns := states + 1 + 3*len(d.states)
	cells := patterns + 1 + len(d.patterns) + len(d.offsets)
	return []int{0, states, patterns, cells}
}

func otherCounts(patterns []string) [][]byte {
	var files [][]byte
	d := draftOf(patterns)
	for i, right := range []int{len(d.classes), len(d.states) + 1, len(d.patterns), len(d.cells)} {
		for _, n := range []int{0, right - 1, right + 1, right + 2, 64, 127, 256, 512, 513, 1 << 14, 1<<31 - 1, 1 << 31, 1 << 32, 1<<62 - 1} {
			if n < 0 || n == right {
				continue
			}
			pieces := d.pieces()
			pieces[d.counts()[i]].b = number(n)
			files = append(files, sealed(body(pieces)))
		}
	}
	return files
}

func bytesTooMany(patterns []string) [][]byte {
	var files [][]byte
	b := body(draftOf(patterns).pieces())
	for _, more := range []string{"\x00", "\x01", "\x80", "\xff", "\x00\x00\x00\x00", string(sum(b)), string(b[4:]), string(b), string(sealed(b))} {
		files = append(files, sealed([]byte(string(b)+more)), sealed([]byte(head+more+string(b[4:]))))
	}
	return files
}

func bytesTooFew(patterns []string) [][]byte {
	var files [][]byte
	b := body(draftOf(patterns).pieces())
	for n := 4; n < len(b); n++ {
		files = append(files, sealed(b[:n]))
	}
	return files
}

// withClasses tells files of patterns with other classes: once with all that hangs on these, and once with them alone.
func withClasses(patterns []string, classes []byte) [][]byte {
	return [][]byte{
		modelOf(patterns).draft(patterns, classes).file(),
		edited(patterns, func(d *draft) { d.classes = classes }),
	}
}

func classesInAnotherOrder(patterns []string) [][]byte {
	var files [][]byte
	right := modelOf(patterns).classes()
	for i := range right {
		for j := range i {
			other := slices.Clone(right)
			other[i], other[j] = other[j], other[i]
			files = append(files, withClasses(patterns, other)...)
		}
	}
	return files
}

func classesTooMany(patterns []string) [][]byte {
	var files [][]byte
	right := modelOf(patterns).classes()
	for b := range 256 {
		at, _ := slices.BinarySearch(right, byte(b))
		files = append(files, withClasses(patterns, slices.Insert(slices.Clone(right), at, byte(b)))...)
	}
	return files
}

func classesTooFew(patterns []string) [][]byte {
	var files [][]byte
	right := modelOf(patterns).classes()
	for i := range right {
		files = append(files, withClasses(patterns, slices.Delete(slices.Clone(right), i, i+1))...)
	}
	return files
}

func statesInAnotherOrder(patterns []string) [][]byte {
	var files [][]byte
	m := modelOf(patterns)
	for i := range m.states {
		for j := 1; j < i; j++ {
			other := slices.Clone(m.states)
			other[i], other[j] = other[j], other[i]
			files = append(files, numbered(other).draft(patterns, m.classes()).file())
		}
	}
	return files
}

// double puts a state behind itself once more; all that come later have a number one greater.
func (d *draft) double(state int) {
	later := func(n *int) {
		if *n > state {
			*n++
		}
	}
	for i := range d.states {
		later(&d.states[i].parent)
		later(&d.states[i].fail)
	}
	for i := range d.patterns {
		later(&d.patterns[i])
	}
	for i := range d.cells {
		if d.cells[i].mark > state+1 {
			d.cells[i].mark++
		}
		later(&d.cells[i].next)
	}
	d.states = slices.Insert(d.states, state, d.states[state-1])
	d.offsets = slices.Insert(d.offsets, state+1, 0)
}

func statesTwice(patterns []string) [][]byte {
	var files [][]byte
	for i := range draftOf(patterns).states {
		files = append(files, edited(patterns, func(d *draft) { d.double(i + 1) }))
		files = append(files, edited(patterns, func(d *draft) {
			d.states = append(d.states, d.states[i])
			d.offsets = append(d.offsets, 0)
		}))
	}
	return files
}

func statesBehindLaterOnes(patterns []string) [][]byte {
	var files [][]byte
	n := len(modelOf(patterns).states)
	for i := range n - 1 {
		later := []int{n, n + 1, 512, 513, 1 << 20, 1 << 32, 1 << 62}
		for state := i + 1; state < n; state++ {
			later = append(later, state)
		}
		for _, parent := range later {
			files = append(files, edited(patterns, func(d *draft) { d.states[i].parent = parent }))
		}
	}
	return files
}

func statesTooMany(patterns []string) [][]byte {
	var files [][]byte
	states := modelOf(patterns).states
	for _, s := range states {
		for _, b := range "\x00abehrsz" {
			more := s + string(b)
			if slices.Contains(states, more) {
				continue
			}
			m := modelOf(append(slices.Clone(patterns), more))
			files = append(files, m.draft(patterns, m.classes()).file())
		}
	}
	return files
}

// numbersBut tells the numbers up to a greatest one, and some far greater ones, but for one.
func numbersBut(right, greatest int) []int {
	l := []int{greatest + 1, greatest + 2, greatest + 127, greatest + 128, greatest + 256, 1 << 14, 1 << 21, 1 << 28, 1 << 31, 1 << 32, 1 << 62}
	for n := range greatest + 1 {
		l = append(l, n)
	}
	return slices.DeleteFunc(l, func(n int) bool { return n == right })
}

func otherFails(patterns []string) [][]byte {
	var files [][]byte
	d := draftOf(patterns)
	for i, e := range d.states {
		for _, fail := range numbersBut(e.fail, len(d.states)) {
			files = append(files, edited(patterns, func(d *draft) { d.states[i].fail = fail }))
		}
	}
	return files
}

func otherPatterns(patterns []string) [][]byte {
	var files [][]byte
	n := len(modelOf(patterns).states)
	for _, no := range []int{0, n, n + 1, n + 127, n + 128, 512, 513, 1 << 14, 1 << 28, 1 << 32, 1 << 62} {
		files = append(files, edited(patterns, func(d *draft) { d.patterns = append(d.patterns, no) }))
		for i := range patterns {
			files = append(files, edited(patterns, func(d *draft) { d.patterns[i] = no }))
		}
	}
	return files
}

func otherOffsets(patterns []string) [][]byte {
	var files [][]byte
	d := draftOf(patterns)
	for i, right := range d.offsets {
		for _, offset := range numbersBut(right, len(d.cells)) {
			files = append(files, edited(patterns, func(d *draft) { d.offsets[i] = offset }))
		}
	}
	return files
}

// move packs a state's row at the end of the cells: NEXT may be found there as well, but the offset is not the least.
func (d *draft) move(state int) {
	from, to := d.offsets[state], len(d.cells)
	for class := range d.classes {
		if at := from + class + 1; at < to && d.cells[at].mark == state+1 {
			for len(d.cells) <= to+class+1 {
				d.cells = append(d.cells, cell{})
			}
			d.cells[to+class+1], d.cells[at] = d.cells[at], cell{}
		}
	}
	d.offsets[state] = to
	for len(d.cells) > 0 && d.cells[len(d.cells)-1].mark == 0 {
		d.cells = d.cells[:len(d.cells)-1]
	}
}

// rowsElsewhere moves rows only: a state without one would have another offset alone.
func rowsElsewhere(patterns []string) [][]byte {
	var files [][]byte
	for state := range modelOf(patterns).states {
		if slices.ContainsFunc(draftOf(patterns).cells, func(c cell) bool { return c.mark == state+1 }) {
			files = append(files, edited(patterns, func(d *draft) { d.move(state) }))
		}
	}
	return files
}

func otherCells(patterns []string) [][]byte {
	var files [][]byte
	d := draftOf(patterns)
	for i, c := range d.cells {
		for _, mark := range numbersBut(c.mark, len(d.states)+1) {
			files = append(files, edited(patterns, func(d *draft) { d.cells[i].mark = mark }))
		}
		if c.mark == 0 {
			continue
		}
		for _, next := range numbersBut(c.next, len(d.states)) {
			files = append(files, edited(patterns, func(d *draft) { d.cells[i].next = next }))
		}
	}
	return files
}

func otherLastCells(patterns []string) [][]byte {
	var files [][]byte
	d := draftOf(patterns)
	for _, c := range []cell{{}, {1, 0}, {1, 1}, {2, 0}, {len(d.states), 1}, {len(d.states) + 1, 1}, {1 << 20, 1 << 20}} {
		files = append(files, edited(patterns, func(d *draft) { d.cells = append(d.cells, c) }))
		files = append(files, edited(patterns, func(d *draft) { d.cells = slices.Insert(d.cells, 0, c) }))
	}
	if last := len(d.cells) - 1; last >= 0 {
		files = append(files, edited(patterns, func(d *draft) { d.cells = d.cells[:last] }))
		files = append(files, edited(patterns, func(d *draft) { d.cells[last] = cell{} }))
	}
	return files
}

func TestNumbersOfVeryManyBytes(t *testing.T) {
	for _, each := range []string{"\x80", "\xff"} {
		many := strings.Repeat(each, 1<<17)
		for _, last := range []string{"", "\x00", "\x01", "\x7f", "\x01\x00\x00\x00"} {
			checkRefused(t, sealed([]byte(head+many+last)), api.ErrForm)
			checkRefused(t, sealed([]byte(head+"\x00"+many+last)), api.ErrForm)
		}
	}
}

// chain is a file of so many states, each behind the one ahead of it, with all patterns the last of them.
func chain(states, patterns int) []byte {
	d := draft{classes: []byte("a"), offsets: make([]int, states)}
	for i := range states - 1 {
		d.states = append(d.states, entry{i, 'a', i})
	}
	d.patterns = slices.Repeat([]int{states - 1}, patterns)
	return d.file()
}

// Spelled out, the patterns of the last would fill far more memory than there is.
func TestFilesOfVeryManyStatesAndPatterns(t *testing.T) {
	checkRefused(t, chain(1<<16, 1), api.ErrForm)
	checkRefused(t, chain(api.MaxTotal+1, 1<<16), api.ErrForm)
	checkRefused(t, chain(1<<16, 1<<16), api.ErrForm)
}

func TestFilesOfMoreThanCompileTakes(t *testing.T) {
	short := api.MaxTotal / api.MaxPatterns
	deep := api.MaxTotal / api.MaxLength
	full := slices.Repeat([]string{long(api.MaxLength)}, deep)
	var apart []string
	for i := range deep {
		apart = append(apart, strings.Repeat(string(rune('a'+i)), api.MaxLength))
	}
	for name, l := range map[string][]string{
		"one pattern more":                   slices.Repeat([]string{"a"}, api.MaxPatterns+1),
		"far more patterns":                  slices.Repeat([]string{"ab"}, 1000),
		"one byte longer":                    {long(api.MaxLength + 1)},
		"one byte longer behind others":      {"b", "ab", long(api.MaxLength + 1)},
		"far longer":                         {long(1000)},
		"one byte more, the same patterns":   slices.Concat(full, []string{"a"}),
		"one byte more, a state more":        slices.Concat(apart, []string{"z"}),
		"one byte more, a beginning":         slices.Concat(apart, []string{"a"}),
		"one byte more, most patterns":       append(slices.Repeat([]string{long(short)}, api.MaxPatterns-1), long(short+1)),
		"all at their most but the total":    slices.Repeat([]string{long(api.MaxLength)}, api.MaxPatterns),
		"a pattern without bytes":            {""},
		"a pattern without bytes and others": {"a", "", "b"},
	} {
		t.Run(name, func(t *testing.T) {
			if _, e, _ := scour.Compile(list(l...)); e == api.OK {
				t.Fatal("the test has a list that Compile takes")
			}
			checkRefused(t, fileByWords(l), api.ErrForm)
		})
	}
}
