package session_test

import (
	"bytes"
	"math/rand/v2"
	"testing"

	"longwire/api"
	"longwire/resume"
	"longwire/session"
)

// world is a client and a server, each beside its model, and datagrams that are on their way.
type world struct {
	t        *testing.T
	r        *rand.Rand
	near     near
	far      far
	client   *modelClient
	server   *modelServer
	up, down [][]byte
	began    map[uint32]session.Begin // by the server, as its client should begin it
}

func worldOf(t *testing.T, r *rand.Rand, m session.Mark) *world {
	w := &world{t: t, r: r, began: map[uint32]session.Begin{}}
	w.serves(m)
	k := session.Kept{}
	if m.Epoch > 0 && r.IntN(4) > 0 {
		k = keptOf(m.Session, m.Epoch-uint32(r.IntN(int(min(m.Epoch, 3)))))
	}
	w.keeps(k)
	return w
}

// serves makes a server, and its model, anew with a mark.
func (w *world) serves(m session.Mark) {
	w.t.Helper()
	w.far, w.server = farMarked(w.t, m), modelServerOf(m)
}

// keeps makes a client, and its model, anew with what it keeps.
func (w *world) keeps(k session.Kept) {
	w.t.Helper()
	w.near, w.client = nearKept(w.t, k), &modelClient{kept: k}
}

// anyAsk tells what may be told, and mostly all that may be open is.
func (w *world) anyAsk() resume.Ask {
	a := asks(uint32(1 + w.r.IntN(4)))
	for id := uint32(1); id < a.Next; id++ {
		if w.r.IntN(5) > 0 {
			a.Open = append(a.Open, resume.Have{Id: id, Out: w.r.Uint32(), Err: w.r.Uint32(), Status: w.r.IntN(2) == 0})
		}
	}
	return a
}

// send lets a datagram be on its way; of many one is lost.
func (w *world) send(way *[][]byte, b []byte) {
	if len(b) == 0 {
		return
	}
	*way = append(*way, bytes.Clone(b))
	if len(*way) > 8 {
		at := w.r.IntN(len(*way))
		*way = append((*way)[:at], (*way)[at+1:]...)
	}
}

// arrives tells a datagram of a way, whichever; now and then it stays there, too.
func (w *world) arrives(way *[][]byte) []byte {
	if len(*way) == 0 {
		return nil
	}
	at := w.r.IntN(len(*way))
	b := bytes.Clone((*way)[at])
	if w.r.IntN(3) > 0 {
		*way = append((*way)[:at], (*way)[at+1:]...)
	}
	return b
}

// comesUp lets the server take a datagram.
func (w *world) comesUp(b []byte) {
	w.t.Helper()
	nonce, last := w.r.Uint64N(4), uint32(w.r.IntN(3))
	got, e := w.far.s.Take(b, nonce, last)
	want, wantErr := w.server.take(b, nonce, last)
	if e != wantErr || !sameReply(got, want) {
		w.t.Fatalf("the server's Take of %x, %d, %d is %+v, %d, want %+v, %d", b, nonce, last, got, e, want, wantErr)
	}
	if m := w.far.s.Mark(); got.Begins {
		w.began[m.Epoch] = session.Begin{Session: m.Session, Epoch: m.Epoch, Last: last, Up: got.Up, Down: got.Down}
	}
	w.send(&w.down, got.Datagram)
}

// comesDown lets the client take a datagram, and tells what begins, and whether something does.
func (w *world) comesDown(b []byte) (session.Begin, bool) {
	w.t.Helper()
	got, e := w.near.c.Take(b)
	want, wantErr := w.client.take(b)
	if e != wantErr || got != want {
		w.t.Fatalf("the client's Take of %x is %+v, %d, want %+v, %d", b, got, e, want, wantErr)
	}
	return got, e == api.OK
}

// starts lets the client tell a Hello.
func (w *world) starts() {
	w.t.Helper()
	nonce, ask := w.r.Uint64N(4), w.anyAsk()
	got, e := w.near.c.Start(nonce, ask)
	if want := w.client.start(nonce, ask); e != api.OK || !bytes.Equal(got, want) {
		w.t.Fatalf("Start of %d, %v is %x, %d, want %x, OK", nonce, ask, got, e, want)
	}
	w.send(&w.up, got)
}

// confirms lets the server confirm its epoch.
func (w *world) confirms() {
	w.t.Helper()
	if got, want := w.far.s.Confirm(), w.server.confirm(); got != want {
		w.t.Fatalf("Confirm is %t, want %t", got, want)
	}
}

// forgedUp tells a Hello of a session, an epoch and a token that are somehow near the right ones, with a right tag.
func (w *world) forgedUp() []byte {
	m := w.far.s.Mark()
	h := hello{epoch: m.Epoch + uint32(w.r.IntN(6)) - 4, nonce: w.r.Uint64N(4), ask: w.anyAsk()}
	h.session = []uint32{0, 5, 5, 5, 6}[w.r.IntN(5)]
	if w.r.IntN(3) == 0 {
		h.epoch = 0
	}
	h.token = []uint64{0, tokenOf(h.session, h.epoch), tokenOf(h.session, h.epoch), tokenOf(h.session, h.epoch+1)}[w.r.IntN(4)]
	return h.bytes()
}

// forgedDown tells a Welcome, or a Refuse, likewise.
func (w *world) forgedDown() []byte {
	k := w.near.c.Kept()
	of, epoch, nonce := []uint32{0, 5, 5, 6}[w.r.IntN(4)], k.Epoch+uint32(w.r.IntN(4))-2, w.r.Uint64N(4)
	if w.r.IntN(3) == 0 {
		return refuse{of, epoch, nonce}.bytes()
	}
	return welcome{of, epoch, nonce, w.r.Uint64(), tokenOf(of, epoch), w.r.Uint32()}.bytes()
}

// garbled tells a datagram that is cut, or has a byte changed, with a right check or a wrong one, or with a right tag, too.
func (w *world) garbled(b []byte) []byte {
	if len(b) < 35 {
		return b
	}
	at := w.r.IntN(len(b))
	switch w.r.IntN(4) {
	case 0:
		return b[:at]
	case 1:
		b[at] = byte(w.r.Uint32())
		return b
	case 2:
		b[at] = byte(w.r.Uint32())
		return checked(string(b[:len(b)-4]))
	}
	g, e := opened(b, helloKind, welcomeKind, refuseKind)
	if e != api.OK {
		return b
	}
	switch w.r.IntN(4) {
	case 0:
		g.kind = byte(w.r.IntN(7))
	case 1:
		g.payload = g.payload[:w.r.IntN(len(g.payload)+1)]
	case 2:
		g.payload += "\x00"
	default:
		p := []byte(g.payload)
		p[w.r.IntN(len(p))] = byte(w.r.IntN(3))
		g.payload = string(p)
	}
	return g.bytes()
}

// step does one step.
func (w *world) step() {
	w.t.Helper()
	switch w.r.IntN(16) {
	case 0, 1:
		w.starts()
	case 2:
		w.send(&w.up, w.near.c.Again())
	case 3, 4, 5:
		w.comesUp(w.arrives(&w.up))
	case 6, 7, 8:
		if got, begins := w.comesDown(w.arrives(&w.down)); begins && got != w.began[got.Epoch] {
			w.t.Fatalf("the client begins %+v, and the server %+v", got, w.began[got.Epoch])
		}
	case 9:
		w.confirms()
	case 10:
		w.comesUp(w.forgedUp())
	case 11:
		w.comesDown(w.forgedDown())
	case 12:
		w.comesUp(w.garbled(w.arrives(&w.up)))
	case 13:
		w.comesDown(w.garbled(w.arrives(&w.down)))
	case 14:
		if w.r.IntN(4) == 0 {
			w.serves(w.far.s.Mark())
		}
	case 15:
		if w.r.IntN(4) == 0 {
			w.keeps(w.near.c.Kept())
		}
	}
}

// wantAsModels asks that both sides have what their models have.
func (w *world) wantAsModels() {
	w.t.Helper()
	w.far.wantMark(w.server.now())
	w.near.wantKept(w.client.kept)
	if b := w.near.c.Again(); w.near.c.Waits() != (len(w.client.waits) > 0) || !bytes.Equal(b, w.client.again()) {
		w.t.Errorf("what waits is %t, %x, want %x", w.near.c.Waits(), b, w.client.again())
	}
	if w.t.Failed() {
		w.t.FailNow()
	}
}

// P12.1 to P12.4: rows of calls on both sides answer as the models do, with Hellos and Welcomes that come late, twice, changed, or not at all; epochs only rise.
func TestModel(t *testing.T) {
	r := rand.New(rand.NewPCG(12, 1))
	for range 20 {
		for _, m := range marks() {
			w := worldOf(t, r, m)
			for range 120 {
				mark, kept := w.far.s.Mark(), w.near.c.Kept()
				w.step()
				w.wantAsModels()
				now := w.far.s.Mark()
				if now.Session != mark.Session || now.Epoch < mark.Epoch || now.Confirmed < mark.Confirmed || now.Confirmed > now.Epoch || w.near.c.Kept().Epoch < kept.Epoch {
					t.Fatalf("the mark was %v, and is %v, and %v was kept, and %v is", mark, now, kept, w.near.c.Kept())
				}
			}
		}
	}
}

// honest lets the two sides do what they do by themselves: an epoch is confirmed just when its client is in it, and whatever is on its way may be late, twice or lost.
func (w *world) honest() {
	switch w.r.IntN(10) {
	case 0, 1:
		w.starts()
	case 2:
		w.send(&w.up, w.near.c.Again())
	case 3, 4:
		w.comesUp(w.arrives(&w.up))
	case 5, 6:
		w.comesDown(w.arrives(&w.down))
	case 7:
		if w.near.c.Kept().Epoch == w.far.s.Mark().Epoch {
			w.confirms()
		}
	case 8:
		w.serves(w.far.s.Mark())
	case 9:
		w.keeps(w.near.c.Kept())
	}
}

// P12.4, P12.5: whatever was lost, or comes late, a client that asks anew comes in, and both sides have the same then.
func TestComesIn(t *testing.T) {
	r := rand.New(rand.NewPCG(12, 2))
	nonce := uint64(1000)
	for range 200 {
		w := worldOf(t, r, markOf(5, 0, 0))
		for range 40 {
			for range r.IntN(12) {
				w.honest()
			}
			nonce++
			meets(t, w.near, w.far, nonce, nonce, asks(1), 0)
			if t.Failed() {
				return
			}
			w.serves(w.far.s.Mark()) // so that the models know of it
			w.keeps(w.near.c.Kept())
		}
	}
}

// P12.5: behind a confirmed epoch nothing that is on its way begins anything, if it was told ahead of it.
func TestNothingLateBegins(t *testing.T) {
	r := rand.New(rand.NewPCG(12, 3))
	nonce := uint64(1000)
	for range 200 {
		w := worldOf(t, r, markOf(5, 0, 0))
		for range 20 {
			for range r.IntN(12) {
				w.honest()
			}
			nonce++
			meets(t, w.near, w.far, nonce, nonce, asks(1), 0)
			w.far.s.Confirm()
			m := w.far.s.Mark()
			for _, b := range w.up {
				got, e := w.far.s.Take(b, 21, 0)
				if e != api.ErrStale || got.Begins {
					t.Fatalf("%x begins something: %+v, %d", b, got, e)
				}
				w.far.wantMark(m)
			}
			k := w.near.c.Kept()
			for _, b := range w.down {
				w.near.stays(b, api.ErrStale)
			}
			w.near.wantKept(k)
			w.serves(m) // so that the models know of it
			w.keeps(k)
		}
	}
}
