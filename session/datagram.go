package session

import (
	"longwire/api"
	"longwire/frame"
	"longwire/scribe"
	"longwire/seal"
)

// readers has for each kind that may come in the closure that reads its payload, and tells what is wrong with that: none for a kind that may not.
type readers [frame.Refuse + 1]func(r *scribe.Reader) api.Errno

// open tells the frame of a datagram that is tagged by a key; its payload was read, whole, by the closure of its kind.
func open(b []byte, key seal.Key, read readers) (frame.Frame, api.Errno) {
	f, tag, e := frame.Decode(b)
	switch {
	case e != api.OK:
		return frame.Frame{}, e
	case read[f.Kind] == nil:
		return frame.Frame{}, api.ErrState
	case tag != key.Tag(f.Signed()):
		return frame.Frame{}, api.ErrCheck
	}
	r := scribe.New(f.Payload)
	if read[f.Kind](r) != api.OK || r.Left() > 0 {
		return frame.Frame{}, api.ErrForm
	}
	return f, api.OK
}

// tagged tells the datagram of a handshake's frame, with its tag by a key.
func tagged(f frame.Frame, key seal.Key) []byte {
	b, _ := frame.Encode(f, key.Tag(f.Signed())) // no payload of a handshake is too long
	return b
}
