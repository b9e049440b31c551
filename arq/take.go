package arq

import (
	"longwire/api"
	"longwire/frame"
)

// Take takes a datagram, and tells the payloads that are handed on.
func (e *End) Take(b []byte) ([][]byte, api.Errno) {
	if e.isNone() {
		return nil, api.ErrNil
	}
	f, err := e.own(b)
	if err != api.OK {
		return nil, err
	}
	e.window.Ack(f.Ack, f.Mask)
	if f.Kind == frame.Ack {
		return nil, api.OK
	}
	e.owes = true                                   // also of one that is not new: the ack of it may be lost
	out, _, _ := e.intake.Take(f.Number, f.Payload) // a frame's payload is never too long
	return out, api.OK
}

// own tells the frame of a datagram that is the end's own to take.
func (e *End) own(b []byte) (frame.Frame, api.Errno) {
	f, tag, err := frame.Decode(b)
	switch {
	case err != api.OK:
		return frame.Frame{}, err
	case f.Kind != frame.Data && f.Kind != frame.Ack:
		return frame.Frame{}, api.ErrState
	case f.Session != e.session || f.Epoch != e.epoch:
		return frame.Frame{}, api.ErrStale
	case tag != e.in.Tag(f.Signed()):
		return frame.Frame{}, api.ErrCheck
	}
	return f, api.OK
}
