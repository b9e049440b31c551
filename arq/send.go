package arq

import (
	"longwire/api"
	"longwire/frame"
)

// Send keeps a payload that is to be sent, due at now.
func (e *End) Send(payload []byte, now int64) api.Errno {
	if e.isNone() {
		return api.ErrNil
	}
	_, err := e.window.Put(payload, now)
	return err
}

// Frames tells the datagrams that are to be sent at now: what is due, or else the ack that is owed.
func (e *End) Frames(now int64) [][]byte {
	if e.isNone() {
		return nil
	}
	frames := e.due(now)
	if len(frames) == 0 && e.owes {
		frames = append(frames, frame.Frame{Kind: frame.Ack})
	}
	e.owes = false // whatever is sent tells what the intake has
	return e.sealed(frames, e.out.Tag)
}

// due tells the frames of what is due at now.
func (e *End) due(now int64) []frame.Frame {
	var frames []frame.Frame
	for _, it := range e.window.Due(now) {
		frames = append(frames, frame.Frame{Kind: frame.Data, Number: it.Number, Payload: it.Payload})
	}
	return frames
}

// sealed tells the datagrams of frames, each with what the intake tells, and with the tag of what is signed of it.
func (e *End) sealed(frames []frame.Frame, tag func(b []byte) uint64) [][]byte {
	var datagrams [][]byte
	for _, f := range frames {
		f.Session, f.Epoch = e.session, e.epoch
		f.Ack, f.Mask = e.intake.Told()
		b, _ := frame.Encode(f, tag(f.Signed())) // what a window numbers and keeps may always be
		datagrams = append(datagrams, b)
	}
	return datagrams
}
