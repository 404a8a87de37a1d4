package wire

import "sawmill/api"

// Reader reads fields one after the other; after an error all reads return zero values.
type Reader struct {
	rest string // what stands behind the position
	err  api.Errno
}

// NewReader returns a reader of a string.
func NewReader(s string) *Reader { return &Reader{rest: s} }

// Uint reads a number.
func (r *Reader) Uint() uint64 {
	n := uint64(0)
	if r.Err() == api.OK {
		n, r.rest, r.err = cutUint(r.rest)
	}
	return n
}

// Int reads a signed number from low to high.
func (r *Reader) Int(low, high int) int {
	n := 0
	if r.Err() == api.OK {
		n, r.rest, r.err = cutInt(r.rest, low, high)
	}
	return n
}

// Text reads a string of at most most bytes.
func (r *Reader) Text(most int) string {
	s := ""
	if r.Err() == api.OK {
		s, r.rest, r.err = cutText(r.rest, most)
	}
	return s
}

// Ints reads a list of at most most signed numbers from low to high.
func (r *Reader) Ints(most, low, high int) []int {
	var l []int
	if r.Err() == api.OK {
		l, r.rest, r.err = cutInts(r.rest, most, low, high)
	}
	return l
}

// Left returns how many bytes have not been read.
func (r *Reader) Left() int {
	if r == nil {
		return 0
	}
	return len(r.rest)
}

// Err returns the first error.
func (r *Reader) Err() api.Errno {
	if r == nil {
		return api.ErrNil
	}
	return r.err
}

// End returns the first error, or ErrLong if bytes are left.
func (r *Reader) End() api.Errno {
	if e := r.Err(); e != api.OK {
		return e
	}
	if r.Left() > 0 {
		return api.ErrLong
	}
	return api.OK
}
