package session_test

import (
	"bytes"
	"sync"
	"testing"

	"longwire/api"
	"longwire/resume"
	"longwire/seal"
	"longwire/session"
)

// roomy tells a copy of b with room behind its end, and all of it with that room.
func roomy(b []byte) (front, all []byte) {
	all = append(bytes.Clone(b), bytes.Repeat([]byte{7}, 100)...)
	return all[:len(b)], all
}

// spoil changes bytes, and the room behind their end.
func spoil(b []byte) {
	all := b[:cap(b)]
	for at := range all {
		all[at] ^= 0xff
	}
}

// R3: datagrams that are handed in read afterwards as before, also in the room behind their ends.
func TestWhatIsHandedInStays(t *testing.T) {
	f, n := farOf(t, 5, 3, 2), nearOf(t, 5, 3)
	n.starts(11, asks(1))
	for _, was := range [][]byte{
		of(5, 3, 11).bytes(), of(5, 3, 11).bytes(), of(5, 1, 12).bytes(), first(13).bytes(), answerTo(12, 5, 4).bytes(),
		refuse{5, 3, 12}.bytes(), answerTo(11, 5, 4).bytes(), gram{kind: dataKind}.bytes(), []byte("no frame"),
	} {
		b, all := roomy(was)
		f.s.Take(b, 21, 0)
		n.c.Take(b)
		if want := append(bytes.Clone(was), bytes.Repeat([]byte{7}, 100)...); !bytes.Equal(all, want) {
			t.Errorf("%x is changed to %x", want, all)
		}
	}
	ask := resume.Ask{Next: 9, Open: append(make([]resume.Have, 0, 9), asks(9, 3, 5).Open...)}
	n.starts(14, ask)
	if !sameAsk(ask, asks(9, 3, 5)) || ask.Open[:3][2] != (resume.Have{}) {
		t.Errorf("what the client tells is changed to %v", ask)
	}
}

// R3: datagrams and lists that were handed in, and changed afterwards, change nothing.
func TestHandedInAndChanged(t *testing.T) {
	f, n := farOf(t, 5, 3, 2), nearOf(t, 5, 3)
	ask := asks(4, 1, 3)
	want := hello{5, 3, 11, tokenOf(5, 3), asks(4, 1, 3)}
	if b, e := n.c.Start(11, ask); e != api.OK || !bytes.Equal(b, want.bytes()) {
		t.Fatalf("Start is %x, %d", b, e)
	}
	ask.Open[0].Id, ask.Open[1] = 2, resume.Have{}
	n.wantWaits(want.bytes())
	b := want.bytes()
	r, e := f.s.Take(b, 21, 3)
	spoil(b)
	if e != api.OK || !sameAsk(r.Ask, asks(4, 1, 3)) {
		t.Errorf("the client told %v, %d", r.Ask, e)
	}
	f.again(want, r.Datagram)
	w := answerTo(11, 5, 4)
	w.last = 3
	b = w.bytes()
	got, _ := n.c.Take(b)
	spoil(b)
	if got.Last != 3 || got.Up != r.Up || got.Down != r.Down {
		t.Errorf("what begins is %+v, and with the server %+v", got, r)
	}
	n.wantKept(keptOf(5, 4))
}

// R3: what was handed out, and changed afterwards, changes nothing.
func TestHandedOutAndChanged(t *testing.T) {
	f, n := farOf(t, 5, 3, 2), nearOf(t, 5, 3)
	h := hello{5, 3, 11, tokenOf(5, 3), asks(4, 1, 3)}
	b, _ := n.c.Start(11, h.ask)
	spoil(b)
	n.wantWaits(h.bytes())
	spoil(n.c.Again())
	n.wantWaits(h.bytes())
	r, _ := f.s.Take(h.bytes(), 21, 3)
	was := bytes.Clone(r.Datagram)
	spoil(r.Datagram)
	clear(r.Ask.Open[:cap(r.Ask.Open)])
	f.again(h, was)
	r, _ = f.s.Take(h.bytes(), 21, 3)
	spoil(r.Datagram)
	f.again(h, was)
	r, _ = f.s.Take(of(5, 1, 12).bytes(), 22, 0)
	spoil(r.Datagram)
	f.refuses(of(5, 1, 12), 0)
	f.again(h, was)
}

// R3: a ring that is overwritten, behind NewServer and NewClient, changes nothing.
func TestRingOverwritten(t *testing.T) {
	for _, by := range []*seal.Ring{{}, ringOf(t, other)} {
		r := ringOf(t, secret)
		s, _ := session.NewServer(r, markOf(5, 0, 0))
		c, _ := session.NewClient(r, session.Kept{})
		if r.Hello() != helloKey() {
			t.Error("the ring is changed")
		}
		*r = *by
		n, f := near{t, c}, far{t, s}
		n.starts(11, asks(1))
		f.takes(first(11), 21, 0)
		n.enters(answerTo(11, 5, 1))
		f.confirms(true)
		f.refuses(first(12), 0)
	}
}

// R7: sides of one ring live apart, also where they are used at one time.
func TestSidesLiveApart(t *testing.T) {
	r := ringOf(t, secret)
	var wait sync.WaitGroup
	for k := range uint32(8) {
		wait.Go(func() {
			s, _ := session.NewServer(r, markOf(k+1, 0, 0))
			c, _ := session.NewClient(r, session.Kept{})
			n, f := near{t, c}, far{t, s}
			for epoch := range uint32(20) {
				n.starts(uint64(epoch), asks(1))
				h := first(0)
				if epoch > 0 {
					h = of(k+1, epoch, uint64(epoch))
				}
				f.takes(h, 21, 0)
				n.enters(answerTo(uint64(epoch), k+1, epoch+1))
				f.confirms(true)
			}
		})
	}
	wait.Wait()
}

// R7: the same calls answer the same.
func TestTheSameAgain(t *testing.T) {
	var first []session.Begin
	for range 3 {
		n, f := nearOf(t, 0, 0), farOf(t, 5, 0, 0)
		var l []session.Begin
		for k := range uint64(5) {
			l = append(l, meets(t, n, f, k, 2*k, asks(1), 0))
		}
		if first == nil {
			first = l
		}
		for k, got := range l {
			if got != first[k] {
				t.Errorf("what begins is %+v, and was %+v", got, first[k])
			}
		}
	}
}
