package mux

import (
	"longwire/api"
	"longwire/scribe"
)

// Take takes a datagram, and tells the messages that are whole now.
func (m *Mux) Take(b []byte) ([]Message, api.Errno) {
	switch {
	case m.isNone():
		return nil, api.ErrNil
	case m.broken:
		return nil, api.ErrState
	}
	payloads, err := m.end.Take(b)
	if err != api.OK {
		return nil, err
	}
	var whole []Message
	for _, p := range payloads {
		x, err := m.hear(p)
		if err != api.OK {
			m.broken, m.coming = true, nil
			return whole, err
		}
		if x != nil {
			whole = append(whole, *x)
		}
	}
	return whole, api.OK
}

// hear takes a payload, and tells the message that it makes whole, if it does; ErrForm, if it breaks the stream.
func (m *Mux) hear(payload []byte) (*Message, api.Errno) {
	r := scribe.New(payload)
	first := int(r.Byte())
	if first == Grant {
		return nil, m.hearGrant(r)
	}
	return m.hearPart(first, r)
}

// hearGrant takes what stands behind the mark of a grant.
func (m *Mux) hearGrant(r *scribe.Reader) api.Errno {
	channel, total := int(r.Byte()), r.Eight()
	if r.Err() != api.OK || r.Left() > 0 || m.spender(channel).Granted(total) != api.OK {
		return api.ErrForm
	}
	return api.OK
}

// hearPart takes what stands behind the channel of a part, and tells the message, if it is whole.
func (m *Mux) hearPart(channel int, r *scribe.Reader) (*Message, api.Errno) {
	last, piece := r.Byte(), r.Rest()
	giver := m.giver(channel)
	if r.Err() != api.OK || giver == nil || last > 1 {
		return nil, api.ErrForm
	}
	if m.coming == nil {
		m.coming = &Message{Channel: channel}
	}
	x := m.coming
	x.Body = append(x.Body, piece...)
	switch {
	case x.Channel != channel || len(x.Body) > api.MaxRecord:
		return nil, api.ErrForm
	case last == 0:
		return nil, api.OK
	case giver.Take(x.price()) != api.OK:
		return nil, api.ErrForm
	}
	m.coming = nil
	return x, api.OK
}

// Use uses so much of what is held of a channel; if a grant is due then, it waits.
func (m *Mux) Use(channel, n int) api.Errno {
	giver := m.giver(channel)
	switch {
	case m.isNone():
		return api.ErrNil
	case giver == nil:
		return api.ErrArg
	}
	if err := giver.Use(n); err != api.OK {
		return err
	}
	if total, due := giver.Grant(); due {
		m.grants[channel] = total // instead of an older one, which tells less
	}
	return api.OK
}
