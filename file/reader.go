package file

import "scour/api"

// longest is how many bytes a NUMBER may have: any that is looked for has fewer, and an int has room for them.
const longest = 4

// reader goes through the bytes of a file.
//
// Where they don't tell what is asked for, it gives up by a panic with a Fault: so whoever asks may take the answer as it is.
type reader struct {
	left []byte
}

// next reads a byte.
func (r *reader) next() byte {
	if len(r.left) == 0 {
		panic(Fault{api.ErrForm})
	}
	b := r.left[0]
	r.left = r.left[1:]
	return b
}

// number reads a NUMBER that may be no greater than most.
func (r *reader) number(most int) int {
	n := 0
	for i := range longest {
		b := r.next()
		n |= int(b&127) << (7 * i)
		if b >= 128 {
			continue
		}
		if n > most {
			break
		}
		return n
	}
	panic(Fault{api.ErrForm})
}
