package mux

import (
	"slices"

	"longwire/api"
	"longwire/scribe"
)

// maxPiece is how many bytes of a body a part has at most: a payload's, less the channel and whether it is the last one.
const maxPiece = api.MaxData - 2

// Send lets a message wait to be sent.
func (m *Mux) Send(x Message) api.Errno {
	spender := m.spender(x.Channel)
	switch {
	case m.isNone():
		return api.ErrNil
	case m.broken:
		return api.ErrState
	case spender == nil:
		return api.ErrArg
	case len(x.Body) > api.MaxRecord:
		return api.ErrLong
	}
	parts := x.parts()
	if len(m.parts)+len(parts) > MaxParts {
		return api.ErrBusy
	}
	if err := spender.Spend(x.price()); err != api.OK {
		return err
	}
	m.parts = append(m.parts, parts...)
	return api.OK
}

// parts tells the payloads of a message's parts: also of a body of none there is one.
func (x Message) parts() [][]byte {
	var parts [][]byte
	rest := x.Body
	for len(rest) > maxPiece {
		parts = append(parts, x.part(0, rest[:maxPiece]))
		rest = rest[maxPiece:]
	}
	return append(parts, x.part(1, rest))
}

// part tells the payload of a part: last is 1, if it is the last one, else 0.
func (x Message) part(last byte, piece []byte) []byte {
	var w scribe.Writer
	b, _ := w.Byte(byte(x.Channel), last).Byte(piece...).Done() // bytes alone may always be laid
	return b
}

// grant tells the payload of a grant.
func grant(channel int, total uint64) []byte {
	var w scribe.Writer
	b, _ := w.Byte(Grant, byte(channel)).Eight(total).Done() // numbers may always be laid
	return b
}

// Frames sends what waits into the end, as much as that takes, and tells the datagrams that are to be sent at now.
func (m *Mux) Frames(now int64) ([][]byte, api.Errno) {
	switch {
	case m.isNone():
		return nil, api.ErrNil
	case m.broken:
		return nil, api.ErrState
	}
	err := m.fill(now)
	if err != api.ErrFull { // whatever else the end refuses may be sent later
		err = api.OK
	}
	return m.end.Frames(now), err
}

// fill sends grants, and then parts, into the end until that refuses one, and tells its error; what was sent waits no more.
func (m *Mux) fill(now int64) api.Errno {
	for channel, total := range m.grants {
		if total == 0 {
			continue
		}
		if err := m.end.Send(grant(channel, total), now); err != api.OK {
			return err
		}
		m.grants[channel] = 0
	}
	for many, part := range m.parts {
		if err := m.end.Send(part, now); err != api.OK {
			m.parts = slices.Delete(m.parts, 0, many)
			return err
		}
	}
	m.parts = nil
	return api.OK
}
