package file

import (
	"bytes"
	"slices"
	"strconv"

	"scour/api"
)

// Fault is the error with which reading a file is given up.
type Fault struct {
	Errno api.Errno
}

// Error makes a fault an error, for errors.As to find.
func (f Fault) Error() string {
	return "the file is refused: error " + strconv.Itoa(int(f.Errno))
}

// shortest is how many bytes the head and the sum have together.
const shortest = len(magic) + 1 + sumSize

// contents is what is read of a file: the bytes of each state, by its number, and the patterns.
type contents struct {
	reader
	states   [][]byte
	patterns [][]byte
}

// Read tells the patterns of a file, or a Fault.
//
// All else in a file follows from its patterns. So what stands behind them is not looked at, and what stands ahead only as far as it leads to them: whoever reads a file must hold it against what the patterns are written as.
func Read(b []byte) ([][]byte, error) {
	c := &contents{reader: reader{b}}
	if err := caught(c.read); err != nil {
		return nil, err
	}
	return c.patterns, nil
}

// caught tells the fault with which reading gives up, if it does. What else goes wrong in it is no fault of the file, and goes on up.
func caught(read func()) (err error) {
	defer func() {
		switch v := recover().(type) {
		case nil:
		case Fault:
			err = v
		default:
			panic(v)
		}
	}()
	read()
	return nil
}

func (c *contents) read() {
	c.readEnds()
	c.skipClasses()
	c.readStates()
	c.readPatterns()
}

// readEnds takes off the head and the sum. Its order is that in which the errors are named.
func (c *contents) readEnds() {
	if len(c.left) < shortest {
		panic(Fault{api.ErrShort})
	}
	if !bytes.HasPrefix(c.left, []byte(magic)) {
		panic(Fault{api.ErrMagic})
	}
	if c.left[len(magic)] != version {
		panic(Fault{api.ErrVersion})
	}
	end := len(c.left) - sumSize
	if !bytes.Equal(c.left[end:], seal(c.left[:end])) {
		panic(Fault{api.ErrSum})
	}
	c.left = c.left[len(magic)+1 : end]
}

func (c *contents) skipClasses() {
	for range c.number(256) {
		c.next()
	}
}

// readStates reads what the states are, each by one ahead of it. FAIL, another one ahead of it, is read over.
func (c *contents) readStates() {
	c.states = [][]byte{nil}
	for range c.number(api.MaxTotal+1) - 1 {
		parent, last := c.state(), c.next()
		c.state()
		c.states = append(c.states, slices.Concat(parent, []byte{last}))
	}
}

func (c *contents) readPatterns() {
	for range c.number(api.MaxPatterns) {
		c.patterns = append(c.patterns, c.state())
	}
}

// state reads the number of a state that is read already, and tells its bytes.
func (c *contents) state() []byte {
	return c.states[c.number(len(c.states)-1)]
}
