package arq_test

import (
	"bytes"
	"math/rand/v2"
	"slices"
	"testing"

	"longwire/api"
	"longwire/arq"
	"longwire/seal"
)

// side is one end of a line: what it was told OK of sending, and what came out of it.
type side struct {
	e         *arq.End
	sent, out []string
}

// send sends a payload of any length, by chance, that tells its place.
func (s *side) send(r *rand.Rand, now int64) {
	p := append([]byte(payloadOf(uint32(len(s.sent)))), make([]byte, r.IntN(250))...)
	if s.e.Send(p, now) == api.OK {
		s.sent = append(s.sent, string(p))
	}
}

// take takes a datagram, and keeps what comes out.
func (s *side) take(b []byte) api.Errno {
	out, err := s.e.Take(b)
	s.out = append(s.out, texts(out)...)
	return err
}

// wantFirstPart asks that what came out of a side is a first part of what the other one sent.
func wantFirstPart(t *testing.T, s, other *side) {
	t.Helper()
	if len(s.out) > len(other.sent) || !slices.Equal(s.out, other.sent[:len(s.out)]) {
		t.Fatalf("of %d payloads sent, %d came out, not as they were sent", len(other.sent), len(s.out))
	}
}

// line is two sides, and the datagrams that are on their way to each, which come in any order; those of old ones that come are again ones that came already.
type line struct {
	r     *rand.Rand
	sides [2]*side
	way   [2][][]byte
	old   [2][][]byte
	now   int64
}

// lineOf tells a line of two ends that have each other's keys, those of a session.
func lineOf(t *testing.T, seed uint64, limit uint32) *line {
	t.Helper()
	ring, err := seal.New([]byte("secret"))
	if err != api.OK {
		t.Fatalf("no ring: %d", err)
	}
	c := arq.Config{
		Session: 7,
		Epoch:   2,
		Out:     ring.Way(seal.Up, 7, 2, 11, 12),
		In:      ring.Way(seal.Down, 7, 2, 11, 12),
		Limit:   limit,
		First:   3,
		Most:    20,
	}
	return &line{r: rand.New(rand.NewPCG(seed, 8)), sides: [2]*side{{e: endOf(t, c)}, {e: endOf(t, across(c))}}}
}

// lay lays what a side sends on its way to the other one: some is lost, some doubled.
func (l *line) lay(from int) {
	for _, b := range l.sides[from].e.Frames(l.now) {
		for range l.r.IntN(3) {
			l.way[1-from] = append(l.way[1-from], b)
			l.old[1-from] = append(l.old[1-from], b)
		}
	}
}

// changed tells a datagram that is not as it was: a bit turned, with the check as it was or a right one, cut, or longer.
func (l *line) changed(b []byte) []byte {
	switch l.r.IntN(4) {
	case 0:
		return flipped(b, l.r.IntN(8*len(b)))
	case 1:
		return rechecked(flipped(b, l.r.IntN(8*(len(b)-4))))
	case 2:
		return b[:l.r.IntN(len(b))]
	}
	return append(bytes.Clone(b), byte(l.r.IntN(256)))
}

// come brings a side one of the datagrams on their way, by chance, and sometimes a changed one, an old one, or one of its own; what is not its own to take changes nothing of what it tells of itself.
func (l *line) come(t *testing.T, to int) {
	t.Helper()
	s := l.sides[to]
	if old := l.old[to]; len(old) > 0 && l.r.IntN(4) == 0 {
		b := old[l.r.IntN(len(old))]
		if err := s.take(b); err != api.OK {
			t.Fatalf("an old datagram is refused: %d", err)
		}
		was := countsOf(s.e)
		if l.sides[1-to].take(b) == api.OK || s.take(l.changed(b)) == api.OK {
			t.Fatal("a datagram is taken that is not the end's own")
		}
		wantCounts(t, s.e, was)
	}
	if way := l.way[to]; len(way) > 0 {
		k := l.r.IntN(len(way))
		if err := s.take(way[k]); err != api.OK {
			t.Fatalf("a datagram is refused: %d", err)
		}
		l.way[to] = slices.Delete(way, k, k+1)
	}
}

// step lets a tick pass: both sides send, and some comes of what is on its way.
func (l *line) step(t *testing.T) {
	t.Helper()
	l.now += l.r.Int64N(3)
	for k, s := range l.sides {
		for range l.r.IntN(4) {
			s.send(l.r, l.now)
		}
		l.lay(k)
		for range l.r.IntN(5) {
			l.come(t, k)
		}
		wantFirstPart(t, s, l.sides[1-k])
		if w, i := s.e.Waits(); w > 16 || i > 15 {
			t.Fatalf("the window keeps %d, the intake %d", w, i)
		}
	}
}

// through brings all that a side sends at once to the other one, in order.
func (l *line) through(t *testing.T, from int) {
	t.Helper()
	for _, b := range l.sides[from].e.Frames(l.now) {
		if err := l.sides[1-from].take(b); err != api.OK {
			t.Fatalf("a datagram is refused: %d", err)
		}
	}
}

// wantAllOut asks that all that was sent has come out, both ways, and that nothing waits.
func (l *line) wantAllOut(t *testing.T) {
	t.Helper()
	for k, s := range l.sides {
		if other := l.sides[1-k]; !slices.Equal(s.out, other.sent) {
			t.Fatalf("of %d payloads sent, %d came out", len(other.sent), len(s.out))
		}
		wantCounts(t, s.e, counts{left: s.e.Left()})
	}
}

// P8.4: over a line that loses, doubles, changes, delays and mixes datagrams each payload comes out once, in order; P8.5: behind datagrams that all come through, both ways, all has come out, and nothing waits.
func TestBadLine(t *testing.T) {
	for seed := range uint64(20) {
		l := lineOf(t, seed, 1000)
		for range 60 {
			for range 1 + l.r.IntN(10) {
				l.step(t)
			}
			if l.r.IntN(4) > 0 {
				continue
			}
			l.now += 20 // all that is kept is due by then
			first := l.r.IntN(2)
			for _, from := range []int{first, 1 - first, first, 1 - first} {
				l.through(t, from)
			}
			l.wantAllOut(t)
		}
		if a, b := len(l.sides[0].out), len(l.sides[1].out); a < 100 || b < 100 {
			t.Errorf("seed %d: only %d and %d came out", seed, a, b)
		}
	}
}

// P8.4, P8.5: till no number is left, on one side or both: all comes out, though nothing comes through for good but by chance.
func TestBadLineToTheLastNumber(t *testing.T) {
	for seed := range uint64(10) {
		l := lineOf(t, seed, 100)
		for {
			l.step(t)
			a, b := l.sides[0], l.sides[1]
			if l.now > 1<<16 {
				t.Fatalf("seed %d: %d and %d came out", seed, len(a.out), len(b.out))
			}
			if len(a.out) == 100 && len(b.out) == 100 && countsOf(a.e) == (counts{}) && countsOf(b.e) == (counts{}) {
				break
			}
		}
		l.wantAllOut(t)
		for _, s := range l.sides {
			wantSend(t, s.e, "x", l.now, api.ErrFull)
		}
	}
}

// P8.5: datagrams that all come through, but in falling order: all comes out, and nothing waits, at last.
func TestFallingLine(t *testing.T) {
	l := lineOf(t, 1, 1000)
	for round := range uint32(20) {
		for k, s := range l.sides {
			for range 16 - 15*k {
				s.send(l.r, l.now)
			}
		}
		for range 5 {
			for k, s := range l.sides {
				b := s.e.Frames(l.now)
				slices.Reverse(b)
				for _, b := range b {
					l.sides[1-k].take(b)
				}
			}
		}
		l.wantAllOut(t)
		if got := len(l.sides[1].out); got != 16*int(round+1) {
			t.Fatalf("round %d: %d came out", round, got)
		}
	}
}

// P8.5: a window that runs ahead of the intake's reach, as the mask dropped what is behind a gap: what is far comes again.
func TestFarAhead(t *testing.T) {
	e, other := endOf(t, config()), endOf(t, across(config()))
	sendAll(t, e, 0, 16, 0)
	for _, b := range e.Frames(0)[1:] { // 0 is lost
		wantTake(t, other, b, api.OK)
	}
	wantTake(t, e, other.Frames(1)[0], api.OK)
	wantCounts(t, e, counts{window: 1, left: 984, wakes: 10, any: true})
	sendAll(t, e, 16, 31, 2)
	for _, b := range e.Frames(2) {
		wantTake(t, other, b, api.OK)
		wantCounts(t, other, counts{owes: true, intake: 15, left: 1000})
	}
	wantTake(t, e, other.Frames(3)[0], api.OK)
	wantCounts(t, e, counts{window: 16, left: 969, wakes: 10, any: true})
	wantTake(t, other, e.Frames(10)[0], api.OK, payloadsOf(0, 16)...)
	for k, b := range e.Frames(12) {
		wantTake(t, other, b, api.OK, payloadOf(uint32(16+k)))
	}
	wantTake(t, e, other.Frames(13)[0], api.OK)
	wantCounts(t, e, counts{left: 969})
}

// P8.5: a datagram that is sent back to its own end is not taken, and changes nothing there: an Ack, and Data.
func TestSentBack(t *testing.T) {
	e := underWay(t)
	for _, now := range []int64{17, 18, 35} { // an Ack, and then Data
		l := e.Frames(now)
		if len(l) == 0 {
			t.Fatalf("at %d nothing is sent", now)
		}
		was := e.Copy()
		for _, b := range l {
			wantTake(t, e, b, api.ErrCheck)
			wantSame(t, e, was)
		}
	}
}

// P8.2, P8.5: with one key for both ways the tag is right: then a datagram that is sent back is its own to take.
func TestSentBackWithOneKey(t *testing.T) {
	c := config()
	c.In = c.Out
	e := endOf(t, c)
	wantSend(t, e, "a", 5, api.OK)
	wantTake(t, e, e.Frames(5)[0], api.OK, "a")
	wantTake(t, e, e.Frames(5)[0], api.OK)
	wantCounts(t, e, counts{left: 999})
}

// P8.2: datagrams of ends of another session, another epoch, or other nonces are not taken.
func TestOfAnotherEnd(t *testing.T) {
	e := endOf(t, config())
	for _, c := range []struct {
		change func(c *arq.Config)
		want   api.Errno
	}{
		{func(c *arq.Config) { c.Session++ }, api.ErrStale},
		{func(c *arq.Config) { c.Epoch++ }, api.ErrStale},
		{func(c *arq.Config) { c.Out[31] ^= 1 }, api.ErrCheck},
		{func(c *arq.Config) { c.Out[0] ^= 0x80 }, api.ErrCheck},
		{func(c *arq.Config) { c.In[0] ^= 0x80 }, api.OK},
	} {
		a := across(config())
		c.change(&a)
		other := endOf(t, a)
		wantSend(t, other, "a", 0, api.OK)
		_, err := e.Copy().Take(other.Frames(0)[0])
		if err != c.want {
			t.Errorf("%d, want %d", err, c.want)
		}
	}
}
