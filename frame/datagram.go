package frame

import (
	"longwire/api"
	"longwire/scribe"
)

// Least is how many bytes a datagram has at least: one whose frame has no payload.
const Least = 35

// checkSize is how many bytes the check at a datagram's end has.
const checkSize = 4

// lay lays what is signed; a payload that may be is never too long for it.
func (f Frame) lay() *scribe.Writer {
	var w scribe.Writer
	return w.Byte(f.Kind).Four(f.Session).Four(f.Epoch).Four(f.Number).Four(f.Ack).Four(f.Mask).Text(string(f.Payload))
}

// Signed tells what is signed: of a frame that may not be nothing.
func (f Frame) Signed() []byte {
	if !f.May() {
		return nil
	}
	b, _ := f.lay().Done()
	return b
}

// Encode tells the datagram of a frame and a tag.
func Encode(f Frame, tag uint64) ([]byte, api.Errno) {
	if !f.May() {
		return nil, api.ErrArg
	}
	w := f.lay().Eight(tag)
	checked, _ := w.Done()
	return w.Four(scribe.Crc(checked)).Done()
}

// Decode tells the frame and the tag of a datagram.
func Decode(b []byte) (Frame, uint64, api.Errno) {
	r := scribe.New(b)
	f := read(r)
	tag, check := r.Eight(), r.Four()
	if r.Err() != api.OK { // so it is with whatever has less than Least bytes
		return Frame{}, 0, api.ErrShort
	}
	if r.Left() > 0 {
		return Frame{}, 0, api.ErrForm
	}
	if scribe.Crc(b[:len(b)-checkSize]) != check {
		return Frame{}, 0, api.ErrCheck
	}
	if !f.May() {
		return Frame{}, 0, api.ErrForm
	}
	return f, tag, api.OK
}

// read takes what is signed: the calls are those of lay, in the same order.
func read(r *scribe.Reader) Frame {
	return Frame{
		Kind:    r.Byte(),
		Session: r.Four(),
		Epoch:   r.Four(),
		Number:  r.Four(),
		Ack:     r.Four(),
		Mask:    r.Four(),
		Payload: []byte(r.Text()),
	}
}
