package session

import (
	"math"

	"longwire/api"
	"longwire/frame"
	"longwire/resume"
	"longwire/scribe"
	"longwire/seal"
)

// sign is by what a Hello is known again.
type sign struct {
	session, epoch uint32
	nonce          uint64
}

// hello is what a Hello tells.
type hello struct {
	sign
	token uint64
	ask   resume.Ask
}

// Server is a server's side. One that NewServer did not make has no ring.
type Server struct {
	ring    *seal.Ring
	mark    Mark
	took    sign   // the last Hello that it took
	welcome string // the Welcome to that one: none, if it took none
}

// NewServer makes a server that took no Hello yet.
func NewServer(r *seal.Ring, m Mark) (*Server, api.Errno) {
	ring := own(r)
	if ring == nil || m.Session == 0 || m.Confirmed > m.Epoch {
		return nil, api.ErrArg
	}
	return &Server{ring: ring, mark: m}, api.OK
}

// isNone tells whether it is no server.
func (s *Server) isNone() bool {
	return s == nil || s.ring == nil
}

// Take takes a datagram; beside ErrStale a Refuse is told.
func (s *Server) Take(b []byte, nonce uint64, last uint32) (Reply, api.Errno) {
	if s.isNone() {
		return Reply{}, api.ErrNil
	}
	h, e := s.read(b)
	switch {
	case e != api.OK:
		return Reply{}, e
	case s.welcome != "" && s.took == h.sign: // whatever else it tells, and whatever is confirmed
		return Reply{Datagram: []byte(s.welcome)}, api.OK
	case !s.takes(h, last):
		return Reply{Datagram: s.refuse(h.sign)}, api.ErrStale
	}
	return s.begin(h, nonce, last), api.OK
}

// read tells the Hello of a datagram.
func (s *Server) read(b []byte) (hello, api.Errno) {
	var h hello
	f, e := open(b, s.ring.Hello(), readers{
		frame.Hello: func(r *scribe.Reader) (e api.Errno) {
			h.nonce, h.token = r.Eight(), r.Eight()
			h.ask, e = resume.Parse(r.Rest()) // of a reader that fell short, nothing, which is no form
			return e
		},
	})
	h.session, h.epoch = f.Session, f.Epoch
	return h, e
}

// takes tells whether it takes a Hello, where the last id is this one.
func (s *Server) takes(h hello, last uint32) bool {
	return h.ask.Fits(last) == api.OK && s.mark.Epoch < math.MaxUint32 && (s.greets(h) || s.knows(h))
}

// greets tells whether a Hello is of a client that knows no session, and may learn of this one.
func (s *Server) greets(h hello) bool {
	return h.session == 0 && h.epoch == 0 && h.token == 0 && s.mark.Confirmed == 0
}

// knows tells whether a Hello is of a client that was in an epoch of this session, and may leave it.
func (s *Server) knows(h hello) bool {
	return h.session == s.mark.Session &&
		h.epoch >= max(s.mark.Confirmed, 1) &&
		h.epoch <= s.mark.Epoch &&
		h.token == s.ring.Token(h.session, h.epoch)
}

// refuse tells the Refuse of a Hello.
func (s *Server) refuse(h sign) []byte {
	var w scribe.Writer
	payload, _ := w.Eight(h.nonce).Done() // a number may always be laid
	return tagged(frame.Frame{Kind: frame.Refuse, Session: h.session, Epoch: h.epoch, Payload: payload}, s.ring.Hello())
}

// begin begins an epoch by a Hello, and tells what is answered.
func (s *Server) begin(h hello, nonce uint64, last uint32) Reply {
	s.mark.Epoch++
	session, epoch := s.mark.Session, s.mark.Epoch
	var w scribe.Writer
	payload, _ := w.Eight(h.nonce).Eight(nonce).Eight(s.ring.Token(session, epoch)).Four(last).Done() // numbers may always be laid
	b := tagged(frame.Frame{Kind: frame.Welcome, Session: session, Epoch: epoch, Payload: payload}, s.ring.Hello())
	s.took, s.welcome = h.sign, string(b)
	up, down := keys(s.ring, session, epoch, h.nonce, nonce)
	return Reply{Datagram: b, Begins: true, Ask: h.ask, Up: up, Down: down}
}

// Confirm confirms the server's epoch, and tells whether that is new.
func (s *Server) Confirm() bool {
	if s.isNone() {
		return false
	}
	was := s.mark
	s.mark.Confirmed = s.mark.Epoch
	return s.mark != was
}

// Mark tells the mark.
func (s *Server) Mark() Mark {
	if s.isNone() {
		return Mark{}
	}
	return s.mark
}
