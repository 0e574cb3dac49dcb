package bytes

import "slices"

// Reader has what is left to read. Nothing but failed tells a reader that has
// read all from one that was asked for more than there was.
type Reader struct {
	rest   []byte
	failed bool
}

// NewReader answers a reader of b, of a copy: b may change meanwhile.
func NewReader(b []byte) *Reader { return &Reader{rest: slices.Clone(b)} }

// Int reads a number; 0, if the reader has failed.
func (r *Reader) Int() int { return int(join(r.take(intBytes))) }

// Text reads a text; an empty one, if the reader has failed.
func (r *Reader) Text() string {
	size := join(r.take(headBytes))
	return string(r.take(int(size)))
}

// Flag reads a flag; false, if the reader has failed.
func (r *Reader) Flag() bool {
	v := join(r.take(flagBytes))
	if v > 1 {
		r.failed = true
	}
	return v == 1
}

// Done tells whether all was read, and nothing more. A nil reader can't keep
// that it has failed: it is always done.
func (r *Reader) Done() bool {
	return r == nil || !r.failed && len(r.rest) == 0
}

// Failed tells whether the reader has failed: that is no more than Done tells
// where bytes are left behind what somebody reads. A nil one can't keep it.
func (r *Reader) Failed() bool { return r != nil && r.failed }

// take answers the next n bytes; none, if the reader has failed, by this call
// or before. Of none, join makes 0: what a failed read answers.
func (r *Reader) take(n int) []byte {
	if r == nil || r.failed {
		return nil
	}
	if n > len(r.rest) {
		r.failed = true
		return nil
	}
	b := r.rest[:n]
	r.rest = r.rest[n:]
	return b
}

// join answers the number of these bytes, the lowest first.
func join(b []byte) uint64 {
	var v uint64
	for i, c := range b {
		v |= uint64(c) << (8 * i)
	}
	return v
}
