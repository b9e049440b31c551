package session_test

import (
	"bytes"
	"crypto/hmac"
	"crypto/sha256"
	"encoding/binary"
	"hash/crc32"
	"slices"
	"strings"
	"testing"

	"longwire/api"
	"longwire/resume"
	"longwire/seal"
	"longwire/session"
)

// The kinds of frames.
const (
	helloKind   = 1
	welcomeKind = 2
	dataKind    = 3
	ackKind     = 4
	refuseKind  = 5
)

// secret is the one that both sides know, and other is another one.
const (
	secret = "the secret"
	other  = "another one"
)

// laid tells numbers, with their highest byte first, and texts, one behind the other.
func laid(l ...any) string {
	var b []byte
	for _, x := range l {
		if s, ok := x.(string); ok {
			b = append(b, s...)
			continue
		}
		b, _ = binary.Append(b, binary.BigEndian, x)
	}
	return string(b)
}

// tagOf tells the tag of a key and bytes, by the standard library.
func tagOf(key seal.Key, message string) uint64 {
	h := hmac.New(sha256.New, key[:])
	h.Write([]byte(message))
	return binary.BigEndian.Uint64(h.Sum(nil))
}

// keyOf tells the key of a secret, a label and parts, by the standard library.
func keyOf(secret, label string, parts ...string) seal.Key {
	h := hmac.New(sha256.New, []byte(secret))
	h.Write([]byte(laid(uint16(len(label)), label)))
	for _, part := range parts {
		h.Write([]byte(laid(uint32(len(part)), part)))
	}
	return seal.Key(h.Sum(nil))
}

// helloKey tells the hello's key.
func helloKey() seal.Key { return keyOf(secret, "hello") }

// tokenOf tells the token of a session and an epoch.
func tokenOf(session, epoch uint32) uint64 {
	return tagOf(keyOf(secret, "token"), laid(session, epoch))
}

// wayOf tells the key of a way: 0 up, 1 down.
func wayOf(way byte, session, epoch uint32, client, server uint64) seal.Key {
	return keyOf(secret, "way", laid(way), laid(session), laid(epoch), laid(client), laid(server))
}

// gram is what a datagram tells; its bytes are made from the words of the chapters, by the standard library.
type gram struct {
	kind                              byte
	session, epoch, number, ack, mask uint32
	payload                           string
}

// signed tells what is signed of it.
func (g gram) signed() string {
	return laid(g.kind, g.session, g.epoch, g.number, g.ack, g.mask, uint16(len(g.payload)), g.payload)
}

// checked tells bytes with their check behind them.
func checked(b string) []byte {
	return []byte(b + laid(crc32.ChecksumIEEE([]byte(b))))
}

// tagged tells the datagram with a tag.
func (g gram) tagged(tag uint64) []byte { return checked(g.signed() + laid(tag)) }

// by tells the datagram with the tag by a key.
func (g gram) by(key seal.Key) []byte { return g.tagged(tagOf(key, g.signed())) }

// bytes tells the datagram with the tag by the hello's key.
func (g gram) bytes() []byte { return g.by(helloKey()) }

// hello is what a Hello tells.
type hello struct {
	session, epoch uint32
	nonce, token   uint64
	ask            resume.Ask
}

// form tells the form of what a client tells.
func form(a resume.Ask) string {
	s := laid(a.Next, byte(len(a.Open)))
	for _, h := range a.Open {
		s += laid(h.Id, h.Out, h.Err, h.Status)
	}
	return s
}

func (h hello) gram() gram {
	return gram{kind: helloKind, session: h.session, epoch: h.epoch, payload: laid(h.nonce, h.token) + form(h.ask)}
}

func (h hello) bytes() []byte { return h.gram().bytes() }

// welcome is what a Welcome tells.
type welcome struct {
	session, epoch        uint32
	client, server, token uint64
	last                  uint32
}

func (w welcome) gram() gram {
	return gram{kind: welcomeKind, session: w.session, epoch: w.epoch, payload: laid(w.client, w.server, w.token, w.last)}
}

func (w welcome) bytes() []byte { return w.gram().bytes() }

// refuse is what a Refuse tells.
type refuse struct {
	session, epoch uint32
	nonce          uint64
}

func (r refuse) gram() gram {
	return gram{kind: refuseKind, session: r.session, epoch: r.epoch, payload: laid(r.nonce)}
}

func (r refuse) bytes() []byte { return r.gram().bytes() }

// asks tells what a client tells that gives next, and has these open, nothing had of them.
func asks(next uint32, ids ...uint32) resume.Ask {
	a := resume.Ask{Next: next}
	for _, id := range ids {
		a.Open = append(a.Open, resume.Have{Id: id})
	}
	return a
}

func sameAsk(a, b resume.Ask) bool {
	return a.Next == b.Next && slices.Equal(a.Open, b.Open)
}

func sameReply(a, b session.Reply) bool {
	return bytes.Equal(a.Datagram, b.Datagram) && a.Begins == b.Begins && sameAsk(a.Ask, b.Ask) && a.Up == b.Up && a.Down == b.Down
}

// ringOf makes a ring of a secret.
func ringOf(t *testing.T, secret string) *seal.Ring {
	t.Helper()
	r, e := seal.New([]byte(secret))
	if e != api.OK {
		t.Fatalf("seal.New: %d", e)
	}
	return r
}

// noRings tells rings that are none.
func noRings() []*seal.Ring {
	failed, _ := seal.New([]byte(strings.Repeat("x", 65)))
	return []*seal.Ring{nil, {}, new(seal.Ring), failed}
}

// P12.1, P12.2: what these tests make from the chapters' words is what is known of it.
func TestGramsKnown(t *testing.T) {
	k := keyOf("key", "hello")
	if k != seal.Key(hmacOf("key", "\x00\x05hello")) {
		t.Errorf("the hello's key is %x", k)
	}
	g := gram{kind: ackKind, session: 7, epoch: 1, ack: 5}
	want := "\x04\x00\x00\x00\x07\x00\x00\x00\x01\x00\x00\x00\x00\x00\x00\x00\x05\x00\x00\x00\x00\x00\x00"
	if g.signed() != want {
		t.Errorf("%x is signed, want %x", g.signed(), want)
	}
	h := hello{session: 5, epoch: 1, nonce: 0x0102030405060708, token: 9, ask: asks(3, 2)}
	want = "\x01\x02\x03\x04\x05\x06\x07\x08\x00\x00\x00\x00\x00\x00\x00\x09" +
		"\x00\x00\x00\x03\x01\x00\x00\x00\x02\x00\x00\x00\x00\x00\x00\x00\x00\x00"
	if h.gram().payload != want {
		t.Errorf("a Hello's payload is %x, want %x", h.gram().payload, want)
	}
}

func hmacOf(key, message string) []byte {
	h := hmac.New(sha256.New, []byte(key))
	h.Write([]byte(message))
	return h.Sum(nil)
}
