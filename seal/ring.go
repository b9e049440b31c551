package seal

import (
	"longwire/api"
	"longwire/scribe"
)

// The ways.
const (
	Up   = 0
	Down = 1
)

// Ring has a secret's keys. One that New did not make has the secret of no bytes, which New never takes.
type Ring struct {
	secret string
}

// New makes the ring of a secret.
func New(secret []byte) (*Ring, api.Errno) {
	if !mayBeSecret(secret) {
		return nil, api.ErrArg
	}
	return &Ring{secret: string(secret)}, api.OK
}

// isNone tells whether it is no ring.
func (r *Ring) isNone() bool {
	return r == nil || r.secret == ""
}

// key tells the key of a label and parts; of no ring the key of bytes 0.
func (r *Ring) key(label string, parts ...[]byte) Key {
	if r.isNone() {
		return Key{}
	}
	k, _ := Derive([]byte(r.secret), label, parts...) // the secret may be, and the labels here are short
	return k
}

// Hello tells the hello's key.
func (r *Ring) Hello() Key {
	return r.key("hello")
}

// Way tells the key of a way.
func (r *Ring) Way(way int, session, epoch uint32, client, server uint64) Key {
	if way != Up && way != Down {
		return Key{}
	}
	return r.key("way", []byte{byte(way)}, four(session), four(epoch), eight(client), eight(server))
}

// Token tells the token of a session and an epoch.
func (r *Ring) Token(session, epoch uint32) uint64 {
	if r.isNone() { // the key of bytes 0 has a tag, but no ring has no token
		return 0
	}
	return r.key("token").Tag(append(four(session), four(epoch)...))
}

// four tells a number in four bytes.
func four(n uint32) []byte {
	var w scribe.Writer
	b, _ := w.Four(n).Done() // a number can always be laid
	return b
}

// eight tells a number in eight bytes.
func eight(n uint64) []byte {
	var w scribe.Writer
	b, _ := w.Eight(n).Done() // a number can always be laid
	return b
}
