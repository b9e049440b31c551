package session_test

import (
	"math"
	"testing"

	"longwire/api"
	"longwire/resume"
	"longwire/session"
)

// meets lets a Hello be told, taken, and its Welcome be taken, and asks that both sides have the same then.
func meets(t *testing.T, n near, f far, client, server uint64, ask resume.Ask, last uint32) session.Begin {
	t.Helper()
	b, e := n.c.Start(client, ask)
	if e != api.OK {
		t.Fatalf("Start: %d", e)
	}
	r, e := f.s.Take(b, server, last)
	if e != api.OK || !r.Begins {
		t.Fatalf("the server's Take: %+v, %d", r, e)
	}
	got, e := n.c.Take(r.Datagram)
	if e != api.OK {
		t.Fatalf("the client's Take: %d", e)
	}
	m := f.s.Mark()
	if want := (session.Begin{Session: m.Session, Epoch: m.Epoch, Last: last, Up: r.Up, Down: r.Down}); got != want {
		t.Errorf("the client has %+v, and the server %+v", got, want)
	}
	if !sameAsk(r.Ask, ask) {
		t.Errorf("the client told %v, and the server heard %v", ask, r.Ask)
	}
	if got.Up == got.Down {
		t.Errorf("one key for both ways: %x", got.Up)
	}
	n.wantKept(keptOf(m.Session, m.Epoch))
	return got
}

// P12.4: both sides have one session, one epoch, one last id, and the same keys, which are of this epoch alone; epochs rise.
func TestBoth(t *testing.T) {
	nonces := []uint64{0, 1, 2, 1 << 32, math.MaxUint64}
	for _, of := range []uint32{1, 5, math.MaxUint32} {
		n, f := nearOf(t, 0, 0), farOf(t, of, 0, 0)
		seen, epoch := map[[32]byte]bool{}, uint32(0)
		for _, client := range nonces {
			for _, server := range nonces {
				got := meets(t, n, f, client, server, asks(epoch+1), epoch)
				if seen[got.Up] || seen[got.Down] {
					t.Errorf("epoch %d has a key that was there before", got.Epoch)
				}
				seen[got.Up], seen[got.Down] = true, true
				epoch++
				if got.Epoch != epoch || got.Session != of {
					t.Errorf("session %d, epoch %d, want %d, %d", got.Session, got.Epoch, of, epoch)
				}
				if server%2 == 0 {
					f.confirms(true)
				}
			}
		}
	}
}

// P12.4: what the client tells comes whole.
func TestBothAsk(t *testing.T) {
	n, f := nearOf(t, 0, 0), farOf(t, 5, 0, 0)
	many := asks(30)
	for id := range uint32(16) {
		many.Open = append(many.Open, resume.Have{Id: id + 14, Out: id * 1e8, Err: math.MaxUint32 - id, Status: id%3 == 0})
	}
	meets(t, n, f, 11, 21, many, 13)
	meets(t, n, f, 11, 21, many, 29)
	meets(t, n, f, 11, 21, asks(math.MaxUint32, 1, math.MaxUint32-1), math.MaxUint32-2)
}

// P12.4: both sides have other keys, where a client and a server are of unlike secrets they never meet.
func TestOtherSecret(t *testing.T) {
	c, _ := session.NewClient(ringOf(t, other), session.Kept{})
	f := farOf(t, 5, 0, 0)
	b, _ := c.Start(11, asks(1))
	f.tells(b, api.ErrCheck)
	if _, e := c.Take(f.takes(first(11), 21, 0)); e != api.ErrCheck || !c.Waits() {
		t.Errorf("another secret's Welcome: %d", e)
	}
}

// P12.5: Hellos that come late, again, or from another epoch than the confirmed one, change nothing behind a confirmed epoch.
func TestLate(t *testing.T) {
	n, f := nearOf(t, 0, 0), farOf(t, 5, 0, 0)
	var late [][]byte
	for k := range uint64(6) {
		// Several Hellos from one epoch: some are taken, one is confirmed, some come later.
		for extra := range uint64(3) {
			b, _ := n.c.Start(100*k+extra, asks(1))
			late = append(late, b)
			if extra == 1 {
				f.s.Take(b, 500+k, 0)
			}
		}
		meets(t, n, f, 100*k+9, 600+k, asks(1), 0)
		late = append(late, of(5, 2*uint32(k)+1, 7).bytes())
		f.confirms(true)
		m := f.s.Mark()
		for range 2 {
			for _, b := range late {
				if r, e := f.s.Take(b, 700, 0); r.Begins || e != api.ErrStale {
					t.Errorf("a late Hello: %+v, %d", r, e)
				}
				f.wantMark(m)
			}
		}
		f.confirms(false)
	}
}

// P12.5: the Hello by which the confirmed epoch began changes nothing, whenever it comes.
func TestConfirmedsHello(t *testing.T) {
	n, f := nearOf(t, 0, 0), farOf(t, 5, 0, 0)
	for k := range uint64(5) {
		b := n.starts(k, asks(1))
		was, _ := f.s.Take(b, 21, 0)
		n.c.Take(was.Datagram)
		f.confirms(true)
		m := f.s.Mark()
		for range 3 {
			f.wantReply(b, 22, 0, session.Reply{Datagram: was.Datagram}, api.OK)
			f.wantMark(m)
			n.stays(was.Datagram, api.ErrStale)
		}
	}
}

// P12.5: a client whose Welcomes were lost comes in again: with the same Hello, and with a new one, also at a server that is made anew.
func TestWelcomesLost(t *testing.T) {
	for _, confirmed := range []bool{false, true} {
		for _, anew := range []bool{false, true} {
			n, f := nearOf(t, 0, 0), farOf(t, 5, 0, 0)
			if confirmed {
				meets(t, n, f, 11, 21, asks(1), 0)
				f.confirms(true)
			}
			for nonce := range uint64(20) { // all these Welcomes are lost
				b := n.starts(nonce, asks(1))
				if r, e := f.s.Take(b, 30+nonce, 0); e != api.OK || !r.Begins {
					t.Fatalf("Hello %d: %+v, %d", nonce, r, e)
				}
				if anew {
					f = farMarked(t, f.s.Mark())
				}
			}
			r, e := f.s.Take(n.c.Again(), 99, 0)
			if e != api.OK || r.Begins != anew {
				t.Fatalf("the same Hello: %+v, %d", r, e)
			}
			if got, e := n.c.Take(r.Datagram); e != api.OK || got.Epoch != f.s.Mark().Epoch {
				t.Fatalf("the Welcome: %+v, %d, and the mark is %v", got, e, f.s.Mark())
			}
			f.confirms(true)
			meets(t, n, f, 11, 21, asks(1), 0)
		}
	}
}

// P12.5: a client that had only an earlier one of the Welcomes, and is in an epoch that is not the server's, comes in again.
func TestEarlierWelcome(t *testing.T) {
	n, f := nearOf(t, 0, 0), farOf(t, 5, 0, 0)
	b := n.starts(11, asks(1))
	r, _ := f.s.Take(b, 21, 0)
	f = farMarked(t, f.s.Mark())
	late, e := f.s.Take(b, 22, 0) // the same Hello begins another epoch there
	if e != api.OK || !late.Begins {
		t.Fatalf("%+v, %d", late, e)
	}
	n.enters(answerTo(11, 5, 1))
	n.stays(late.Datagram, api.ErrStale)
	if string(r.Datagram) == string(late.Datagram) || r.Up == late.Up {
		t.Error("two epochs have one Welcome, or one key")
	}
	if got := meets(t, n, f, 12, 23, asks(1), 0); got.Epoch != 3 {
		t.Errorf("epoch %d", got.Epoch)
	}
}

// P12.3, P12.5: a client that is refused keeps what it had, and may ask anew.
func TestRefusedByServer(t *testing.T) {
	n, f := nearOf(t, 5, 3), farOf(t, 5, 7, 5)
	b := n.starts(11, asks(1))
	r, e := f.s.Take(b, 21, 0)
	if e != api.ErrStale || r.Begins {
		t.Fatalf("a Hello of an epoch that is gone: %+v, %d", r, e)
	}
	n.isRefused(r.Datagram)
	n.wantKept(keptOf(5, 3))
	f = farOf(t, 5, 7, 3)
	meets(t, n, f, 12, 22, asks(1), 0)
}
