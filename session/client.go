package session

import (
	"longwire/api"
	"longwire/frame"
	"longwire/resume"
	"longwire/scribe"
	"longwire/seal"
)

// answer is what a Welcome's payload tells; a Refuse's tells the client's nonce alone.
type answer struct {
	client, server, token uint64
	last                  uint32
}

// Client is a client's side. One that NewClient did not make has no ring.
type Client struct {
	ring  *seal.Ring
	kept  Kept
	nonce uint64 // that of the Hello that waits
	hello string // the Hello that waits: none, if none does
}

// NewClient makes a client that waits for nothing.
func NewClient(r *seal.Ring, k Kept) (*Client, api.Errno) {
	ring := own(r)
	if ring == nil || (k.Session == 0) != (k.Epoch == 0) {
		return nil, api.ErrArg
	}
	return &Client{ring: ring, kept: k}, api.OK
}

// isNone tells whether it is no client.
func (c *Client) isNone() bool {
	return c == nil || c.ring == nil
}

// Start tells a Hello, which waits from now on.
func (c *Client) Start(nonce uint64, ask resume.Ask) ([]byte, api.Errno) {
	if c.isNone() {
		return nil, api.ErrNil
	}
	form, e := ask.Bytes()
	if e != api.OK {
		return nil, e
	}
	var w scribe.Writer
	payload, _ := w.Eight(nonce).Eight(c.token()).Byte(form...).Done() // numbers and bytes may always be laid
	b := tagged(frame.Frame{Kind: frame.Hello, Session: c.kept.Session, Epoch: c.kept.Epoch, Payload: payload}, c.ring.Hello())
	c.nonce, c.hello = nonce, string(b)
	return b, api.OK
}

// token tells the token that a Hello has: of one who knows no session none, whatever is kept.
func (c *Client) token() uint64 {
	if c.kept.Session == 0 {
		return 0
	}
	return c.kept.Token
}

// Again tells the Hello that waits.
func (c *Client) Again() []byte {
	if !c.Waits() {
		return nil
	}
	return []byte(c.hello)
}

// Take takes a datagram, and tells what begins; ErrNone is that the Hello was refused.
func (c *Client) Take(b []byte) (Begin, api.Errno) {
	if c.isNone() {
		return Begin{}, api.ErrNil
	}
	f, a, e := c.read(b)
	switch {
	case e != api.OK:
		return Begin{}, e
	case !c.Waits() || a.client != c.nonce:
		return Begin{}, api.ErrStale
	case f.Kind == frame.Refuse:
		c.forget()
		return Begin{}, api.ErrNone
	case !c.follows(f):
		return Begin{}, api.ErrStale
	}
	c.forget()
	c.kept = Kept{Session: f.Session, Epoch: f.Epoch, Token: a.token}
	up, down := keys(c.ring, f.Session, f.Epoch, a.client, a.server)
	return Begin{Session: f.Session, Epoch: f.Epoch, Last: a.last, Up: up, Down: down}, api.OK
}

// read tells the frame of a Welcome, or a Refuse, and what its payload tells.
func (c *Client) read(b []byte) (frame.Frame, answer, api.Errno) {
	var a answer
	f, e := open(b, c.ring.Hello(), readers{
		frame.Welcome: func(r *scribe.Reader) api.Errno {
			a = answer{client: r.Eight(), server: r.Eight(), token: r.Eight(), last: r.Four()}
			return r.Err()
		},
		frame.Refuse: func(r *scribe.Reader) api.Errno {
			a = answer{client: r.Eight()}
			return r.Err()
		},
	})
	return f, a, e
}

// follows tells whether a Welcome's session and epoch may follow those that are kept.
func (c *Client) follows(f frame.Frame) bool {
	known := c.kept.Session == 0 || c.kept.Session == f.Session
	return f.Session != 0 && known && f.Epoch > c.kept.Epoch
}

// forget lets no Hello wait any more.
func (c *Client) forget() {
	c.nonce, c.hello = 0, ""
}

// Kept tells what the client keeps.
func (c *Client) Kept() Kept {
	if c.isNone() {
		return Kept{}
	}
	return c.kept
}

// Waits tells whether a Hello waits for its answer.
func (c *Client) Waits() bool {
	return !c.isNone() && c.hello != ""
}
