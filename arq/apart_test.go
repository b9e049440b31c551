package arq_test

import (
	"bytes"
	"sync"
	"testing"

	"longwire/api"
	"longwire/arq"
)

// apart does all that changes an end to one that is under way, and asks that another such one stays as it was.
func apart(t *testing.T, one, other *arq.End) {
	t.Helper()
	steps := []func(){
		func() { one.Send([]byte("x"), 9) },
		func() { one.Frames(9) },
		func() { wantTaken(t, one, dataOf(6, 0, 0, "a6")) },
		func() { one.Frames(18) },
		func() { wantTaken(t, one, ackOf(1, 0b1)) },
		func() { wantTaken(t, one, dataOf(3, 6, 0, "a3"), "a3", "a4") },
		func() { one.Frames(40) },
		func() { sendAll(t, one, 0, 15, 41) },
		func() { one.Frames(latest) },
		func() { wantTaken(t, one, dataOf(5, 7, 0, "a5"), "a5", "a6", "a7") },
		func() { one.Take(nil) },
	}
	for _, step := range steps {
		step()
		wantSame(t, other, underWay(t))
	}
	wantCounts(t, one, counts{true, 15, 0, 978, latest + 10, true})
	wantSend(t, other, "y", 9, api.OK)
	wantFrames(t, other, 9, dataOf(6, 3, 0b1001, "y"))
	wantTaken(t, other, dataOf(3, 0, 0, "b3"), "b3", "a4")
	wantTaken(t, other, dataOf(5, 7, 0, "b5"), "b5")
	wantCounts(t, other, counts{true, 0, 1, 993, 0, false})
	wantCounts(t, one, counts{true, 15, 0, 978, latest + 10, true})
}

// P8.3: a copy and its first one live apart, both ways.
func TestCopyLivesApart(t *testing.T) {
	e := underWay(t)
	apart(t, e.Copy(), e)
	e = underWay(t)
	apart(t, e, e.Copy())
	e = underWay(t)
	c := e.Copy()
	apart(t, c.Copy(), c)
	wantSame(t, e, underWay(t))
}

// R7: ends live apart, also where they are used at one time, and copies are made of one at one time.
func TestEndsLiveApart(t *testing.T) {
	shared := underWay(t)
	was := underWay(t)
	var wait sync.WaitGroup
	for range 8 {
		wait.Go(func() {
			own := shared.Copy()
			if out, err := own.Take(good().in()); err != api.OK || len(out) != 2 {
				t.Errorf("Take: %q, %d", texts(out), err)
			}
			if l := own.Frames(18); len(l) != 1 {
				t.Errorf("%d datagrams", len(l))
			}
			if got := countsOf(shared); got != countsOf(was) {
				t.Errorf("counts %v", got)
			}
		})
	}
	wait.Wait()
	wantSame(t, shared, was)
}

// roomy tells a copy of b with room behind its end, and all of it with that room.
func roomy(b []byte) (front, all []byte) {
	all = append(bytes.Clone(b), bytes.Repeat([]byte{7}, 100)...)
	return all[:len(b)], all
}

// R3: what is handed in reads afterwards as before, also in the room behind its end, refused or not.
func TestWhatIsHandedInStays(t *testing.T) {
	e := underWay(t)
	datagrams := [][]byte{good().in(), ackOf(1, 0).in(), dataOf(40, 0, 0, "x").in(), good().by(config().Out), {1, 2, 3}}
	for _, was := range datagrams {
		b, all := roomy(was)
		e.Take(b)
		if !bytes.Equal(all[:len(was)], was) || !bytes.Equal(all[len(was):], bytes.Repeat([]byte{7}, 100)) {
			t.Errorf("%x is changed to %x", was, all)
		}
	}
	payload, all := roomy([]byte("payload"))
	wantSend(t, e, string(payload), -1, api.ErrArg)
	e.Send(payload, 20)
	e.Frames(20)
	if want := append([]byte("payload"), bytes.Repeat([]byte{7}, 100)...); !bytes.Equal(all, want) {
		t.Errorf("the payload is changed to %q", all)
	}
}

// R3: bytes that were handed in, and changed afterwards, change nothing.
func TestHandedInAndChanged(t *testing.T) {
	e := endOf(t, config())
	p := []byte("first")
	e.Send(p, 5)
	clear(p)
	wantFrames(t, e, 5, dataOf(0, 0, 0, "first"))
	copy(p, "again")
	wantFrames(t, e, 15, dataOf(0, 0, 0, "first"))
	b := dataOf(1, 0, 0, "b").in()
	wantTake(t, e, b, api.OK)
	clear(b)
	b = dataOf(0, 0, 0, "a").in()
	out, _ := e.Take(b)
	clear(b)
	if got := texts(out); len(got) != 2 || got[0] != "a" || got[1] != "b" {
		t.Errorf("handed on %q", got)
	}
	wantFrames(t, e, 15, ackOf(2, 0))
}

// scribble changes bytes that were handed out, and writes into the room behind their ends.
func scribble(l [][]byte) {
	for _, b := range l {
		for k := range b[:cap(b)] {
			b[:cap(b)][k] ^= 0xff
		}
	}
	clear(l[:cap(l)])
}

// R3: bytes that were handed out, and changed afterwards, change nothing.
func TestHandedOutAndChanged(t *testing.T) {
	e := underWay(t)
	for _, now := range []int64{18, 35, 65} {
		was := e.Copy()
		c := e.Copy()
		scribble(c.Frames(now))
		was.Frames(now)
		wantSame(t, c, was)
		scribble(e.Frames(now))
		wantSame(t, e, was)
	}
	out, _ := e.Take(dataOf(3, 0, 0, "a3").in())
	scribble(out)
	wantTaken(t, e, dataOf(5, 0, 0, "a5"), "a5")
	out, _ = e.Take(dataOf(6, 0, 0, "a6").in())
	if got := texts(out); len(got) != 2 || got[0] != "a6" || got[1] != "a7" {
		t.Errorf("handed on %q", got)
	}
	scribble(e.Frames(65))
	wantTaken(t, e, dataOf(0, 0, 0, "a0"))
	wantFrames(t, e, 65, ackOf(8, 0))
}

// R3: no two datagrams, or payloads, of one answer share their memory.
func TestAnswersAreApart(t *testing.T) {
	e := endOf(t, config())
	sendAll(t, e, 0, 16, 5)
	for _, n := range []uint32{1, 2, 3} {
		wantTaken(t, e, dataOf(n, 0, 0, payloadOf(n)))
	}
	out, _ := e.Take(dataOf(0, 0, 0, payloadOf(0)).in())
	for k := range out {
		_ = append(out[k], "behind"...)
		clear(out[k])
		for j := k + 1; j < len(out); j++ {
			if string(out[j]) != payloadOf(uint32(j)) {
				t.Fatalf("payload %d is %q behind a change of %d", j, out[j], k)
			}
		}
	}
	l := e.Frames(5)
	for k := range l {
		_ = append(l[k], "behind"...)
		clear(l[k])
		for j := k + 1; j < len(l); j++ {
			if !bytes.Equal(l[j], dataOf(uint32(j), 4, 0, payloadOf(uint32(j))).by(config().Out)) {
				t.Fatalf("datagram %d is changed behind a change of %d", j, k)
			}
		}
	}
	wantFrames(t, e, 5)
}
