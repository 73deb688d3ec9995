// Package scour: many patterns are looked for at once: see DOC.md.
package scour

import (
	"bytes"
	"errors"

	"scour/api"
	"scour/ends"
	"scour/file"
	"scour/pack"
	"scour/trie"
)

// Machine looks for patterns.
type Machine struct {
	trie  *trie.Trie
	table *pack.Table
	ends  *ends.Table
}

// Compile makes patterns into a machine (P2).
func Compile(patterns [][]byte) (*Machine, api.Errno, int) {
	if e, at := check(patterns); e != api.OK {
		return nil, e, at
	}
	t := trie.New(patterns)
	return &Machine{trie: t, table: pack.New(t), ends: ends.New(t)}, api.OK, 0
}

// check tells what keeps patterns from being compiled, and the number of the pattern that does.
func check(patterns [][]byte) (api.Errno, int) {
	if len(patterns) > api.MaxPatterns {
		return api.ErrMany, 0
	}
	total := 0
	for i, p := range patterns {
		if len(p) == 0 {
			return api.ErrEmpty, i
		}
		if len(p) > api.MaxLength {
			return api.ErrLong, i
		}
		total += len(p)
	}
	// Not earlier: a pattern that is empty or too long goes first, wherever it stands.
	if total > api.MaxTotal {
		return api.ErrTotal, 0
	}
	return api.OK, 0
}

// Patterns tells what it looks for (P3).
func (m *Machine) Patterns() [][]byte {
	return m.trie.Patterns()
}

// States tells how many states there are (P3).
func (m *Machine) States() int {
	return m.trie.Len()
}

// Next tells which state comes behind one by a byte (P3).
func (m *Machine) Next(state int, b byte) (int, api.Errno) {
	if state < 0 || state >= m.trie.Len() {
		return 0, api.ErrArg
	}
	return m.trie.Next(state, b), api.OK
}

// Save writes a machine as a file (P4).
func (m *Machine) Save() []byte {
	return file.Write(m.trie, m.table)
}

// Load reads a file (P5).
func Load(b []byte) (*Machine, api.Errno) {
	patterns, err := file.Read(b)
	var f file.Fault
	if errors.As(err, &f) {
		return nil, f.Errno
	}
	m, e, _ := Compile(patterns)
	// Reading looks for the patterns alone: only the file that they are saved as is one.
	if e != api.OK || !bytes.Equal(m.Save(), b) {
		return nil, api.ErrForm
	}
	return m, api.OK
}

// Scanner looks through bytes as they come. All that it keeps of them is the state to which they led, and how many they were.
type Scanner struct {
	step  func(state int, b byte) int
	ends  *ends.Table
	state int
	count int
}

// Scan begins (P6).
func (m *Machine) Scan() *Scanner {
	return &Scanner{step: m.table.Step(), ends: m.ends}
}

// Feed takes bytes; what ends in them (P6).
func (s *Scanner) Feed(b []byte) []api.Match {
	var told []api.Match
	for _, c := range b {
		s.state = s.step(s.state, c)
		s.count++
		told = s.ends.Append(told, s.state, s.count)
	}
	return told
}
