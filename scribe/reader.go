package scribe

import (
	"bytes"

	"longwire/api"
)

// Reader takes from the front of bytes what a Writer lays.
type Reader struct {
	left  []byte
	short bool
}

// New makes a reader of b.
func New(b []byte) *Reader {
	return &Reader{left: bytes.Clone(b)}
}

// next takes the first n bytes; it hands out the reader's own memory, which only Take and Text may pass on, as a copy.
func (r *Reader) next(n int) []byte {
	if r == nil {
		return nil
	}
	if n > len(r.left) {
		r.left, r.short = nil, true
		return nil
	}
	front := r.left[:n]
	r.left = r.left[n:]
	return front
}

// number takes a number of n bytes.
func (r *Reader) number(n int) uint64 {
	v := uint64(0)
	for _, b := range r.next(n) {
		v = v<<8 | uint64(b)
	}
	return v
}

// Byte takes a byte.
func (r *Reader) Byte() byte { return byte(r.number(1)) }

// Two takes a number of two bytes.
func (r *Reader) Two() uint16 { return uint16(r.number(2)) }

// Four takes a number of four bytes.
func (r *Reader) Four() uint32 { return uint32(r.number(4)) }

// Eight takes a number of eight bytes.
func (r *Reader) Eight() uint64 { return r.number(8) }

// Text takes a text.
func (r *Reader) Text() string { return string(r.next(int(r.Two()))) }

// Take takes n bytes, or, if n is below 0, none.
func (r *Reader) Take(n int) []byte { return bytes.Clone(r.next(max(n, 0))) }

// Rest takes all that is left.
func (r *Reader) Rest() []byte { return r.Take(r.Left()) }

// Left tells how many bytes are left.
func (r *Reader) Left() int {
	if r == nil {
		return 0
	}
	return len(r.left)
}

// Err tells ErrShort, if something was not all there.
func (r *Reader) Err() api.Errno {
	if r == nil || r.short {
		return api.ErrShort
	}
	return api.OK
}
