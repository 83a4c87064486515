package cbor

import "shipyard/api"

// Reader reads values one after the other.
type Reader struct {
	reader
}

// reader is what a Reader embeds: the bytes that it reads, the place up to which they were read, and the first error.
type reader struct {
	bytes string
	place int
	first api.Errno
}

// NewReader returns a reader of any string.
func NewReader(s string) (r *Reader) {
	return &Reader{reader{bytes: s}}
}

// Int reads an integer from low to high.
func (r *Reader) Int(low, high int) (n int) {
	if !r.ready() {
		return 0
	}
	n, size, e := readInt(r.rest(), low, high)
	r.move(size, e)
	return n
}

// Text reads a byte string of at most most bytes.
func (r *Reader) Text(most int) (s string) {
	if !r.ready() {
		return ""
	}
	s, size, e := readText(r.rest(), most)
	r.move(size, e)
	return s
}

// Bool reads a boolean.
func (r *Reader) Bool() (b bool) {
	if !r.ready() {
		return false
	}
	b, size, e := readBool(r.rest())
	r.move(size, e)
	return b
}

// List reads the head of a list of at most most elements.
func (r *Reader) List(most int) (n int) {
	if !r.ready() {
		return 0
	}
	n, size, e := readCount(r.rest(), kindList, most)
	r.move(size, e)
	return n
}

// Left returns the number of bytes that have not been read.
func (r *Reader) Left() (n int) {
	if r == nil {
		return 0
	}
	return len(r.rest())
}

// Err returns the first error.
func (r *Reader) Err() (e api.Errno) {
	if r == nil {
		return api.ErrNil
	}
	return r.first
}

// End returns the first error, or ErrLong if bytes are left.
func (r *Reader) End() (e api.Errno) {
	if e := r.Err(); e != api.OK {
		return e
	}
	if r.Left() > 0 {
		return api.ErrLong
	}
	return api.OK
}

// ready reports whether there is a reader without an error.
func (r *Reader) ready() bool {
	return r != nil && r.first == api.OK
}

// rest returns the bytes that have not been read.
func (r *reader) rest() string {
	return r.bytes[r.place:]
}

// move moves the reader behind a value of this size, or stores the error. With an error the size is 0.
func (r *reader) move(size int, e api.Errno) {
	r.place += size
	r.first = e
}
