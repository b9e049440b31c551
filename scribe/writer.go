// Package scribe lays bytes one behind the other, reads them back, and checks them.
package scribe

import (
	"bytes"
	"math"

	"longwire/api"
)

// piece is what one call laid. It is never changed, so that copies of a Writer may share it and still go on apart.
type piece struct {
	ahead *piece
	bytes []byte
}

// Writer lays bytes one behind the other; one that is just declared has nothing.
type Writer struct {
	last *piece
	many int
	long bool
}

// Byte lays bytes as they stand.
func (w *Writer) Byte(l ...byte) *Writer {
	if w == nil {
		w = &Writer{}
	}
	if w.long || len(l) == 0 {
		return w
	}
	w.last = &piece{ahead: w.last, bytes: bytes.Clone(l)}
	w.many += len(l)
	return w
}

// Two lays a number of two bytes.
func (w *Writer) Two(n uint16) *Writer {
	return w.Byte(byte(n>>8), byte(n))
}

// Four lays a number of four bytes.
func (w *Writer) Four(n uint32) *Writer {
	return w.Byte(byte(n>>24), byte(n>>16), byte(n>>8), byte(n))
}

// Eight lays a number of eight bytes.
func (w *Writer) Eight(n uint64) *Writer {
	return w.Four(uint32(n >> 32)).Four(uint32(n))
}

// Text lays how many bytes a text has, in two bytes, and they. One that is too long is an error that stays.
func (w *Writer) Text(s string) *Writer {
	if len(s) <= math.MaxUint16 {
		return w.Two(uint16(len(s))).Byte([]byte(s)...)
	}
	if w == nil {
		w = &Writer{}
	}
	*w = Writer{long: true}
	return w
}

// Done tells all bytes that were laid, or ErrLong, if something could not be laid.
func (w *Writer) Done() ([]byte, api.Errno) {
	if w == nil {
		return nil, api.OK
	}
	if w.long {
		return nil, api.ErrLong
	}
	all := make([]byte, w.many)
	end := w.many
	for p := w.last; p != nil; p = p.ahead {
		end -= len(p.bytes)
		copy(all[end:], p.bytes)
	}
	return all, api.OK
}
