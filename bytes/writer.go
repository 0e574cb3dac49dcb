package bytes

// Writer has all that was written, as a row of parts from the last one on. A
// part never changes: so a Writer that is copied as a value, too, has nothing
// in common with the other one, as it would with spare room behind a slice.
type Writer struct {
	last *part
	size int
}

// part is what one call wrote, and what was written ahead of it.
type part struct {
	ahead *part
	text  string
}

// Int writes n, the lowest byte first.
func (w *Writer) Int(n int) { w.add(split(uint64(n), intBytes)) }

// Text writes the length of s and s, or of its first bytes, where it is longer
// than a length can tell.
func (w *Writer) Text(s string) {
	fits := s[:min(len(s), maxText)]
	w.add(split(uint64(len(fits)), headBytes) + fits)
}

// Flag writes a byte 1 or 0.
func (w *Writer) Flag(ok bool) {
	if ok {
		w.add("\x01")
	} else {
		w.add("\x00")
	}
}

// Bytes answers all that was written.
func (w *Writer) Bytes() []byte {
	all := make([]byte, w.size)
	end := w.size
	for p := w.last; p != nil; p = p.ahead {
		end -= len(p.text)
		copy(all[end:], p.text)
	}
	return all
}

// add puts text behind all; it is kept, so it must not be a caller's own.
func (w *Writer) add(text string) {
	w.last = &part{ahead: w.last, text: text}
	w.size += len(text)
}

// split answers the lowest n bytes of v, the lowest first.
func split(v uint64, n int) string {
	b := make([]byte, n)
	for i := range b {
		b[i] = byte(v >> (8 * i))
	}
	return string(b)
}
