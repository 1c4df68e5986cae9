package wire

import "burin/api"

const (
	groupBits = 7              // of a number, in each byte of its varint
	more      = 1 << groupBits // the highest bit of a byte: another one follows
)

// appendVarints adds the varints of numbers, none of them negative, to an encoding.
func appendVarints(to []byte, numbers ...int) []byte {
	for _, n := range numbers {
		for ; n >= more; n >>= groupBits {
			to = append(to, byte(n%more+more))
		}
		to = append(to, byte(n))
	}
	return to
}

// reader reads an encoding from the front.
type reader struct{ rest string }

// octet reads a byte, and reports whether there is one.
func (r *reader) octet(to *int) bool {
	if r.rest == "" {
		return false
	}
	*to = int(r.rest[0])
	r.rest = r.rest[1:]
	return true
}

// varint reads a varint, and reports whether there is one that may be a number of a program: a further group would make the
// number greater than all of these, and might not fit in an int.
func (r *reader) varint(to *int) bool {
	n := 0
	for shift := 0; 1<<shift <= api.MaxProg; shift += groupBits {
		var b int
		if !r.octet(&b) {
			return false
		}
		n |= (b % more) << shift
		if b < more {
			*to = n
			return b > 0 || shift == 0 // a last group of 0 makes the varint longer than necessary, except where it is the only one
		}
	}
	return false
}

// fill calls a method of a reader for each of the places in turn, and reports whether all these calls succeed.
func fill(read func(*int) bool, places ...*int) bool {
	for _, to := range places {
		if !read(to) {
			return false
		}
	}
	return true
}
