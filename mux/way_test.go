package mux_test

import (
	"math/rand/v2"
	"slices"
	"testing"

	"longwire/api"
	"longwire/arq"
	"longwire/mux"
)

// talker is one side of a way: what it was told OK of sending, what came out of it, channel by channel, and what is on its way to it.
type talker struct {
	m         *mux.Mux
	sent, out [5][]string
	way, old  [][]byte
	many      int
}

// way is two talkers, of the sides Up and Down, and a way that delays, doubles, mixes and loses datagrams.
type way struct {
	t     *testing.T
	r     *rand.Rand
	limit int
	sides [2]*talker
	now   int64
}

func wayOf(t *testing.T, seed uint64, limit int) *way {
	t.Helper()
	w := &way{t: t, r: rand.New(rand.NewPCG(seed, 104)), limit: limit}
	for side, c := range []arq.Config{config(), across(config())} {
		m, err := mux.New(side, limit, endOf(t, c, 1<<20))
		want(t, "New", err, api.OK)
		w.sides[side] = &talker{m: m}
	}
	return w
}

// say sends a message on one of a side's own channels; one that is refused changes nothing.
func (w *way) say(side int) {
	w.t.Helper()
	s := w.sides[side]
	channel := []int{command, signal}[w.r.IntN(2)]
	if side == mux.Down {
		channel = stdout + w.r.IntN(3)
	}
	left := s.m.Left(channel)
	n := w.r.IntN(max(1, min(left+1, 4097)))
	if w.r.IntN(2) == 0 {
		n = w.r.IntN(max(1, min(left, 40)))
	}
	body := make([]byte, n)
	for k := range body {
		body[k] = byte(w.r.Uint32())
	}
	was := countsOf(s.m)
	switch err := s.m.Send(mux.Message{Channel: channel, Body: body}); err {
	case api.OK:
		s.sent[channel] = append(s.sent[channel], string(body))
	case api.ErrBusy:
		wantCounts(w.t, s.m, was)
	default:
		w.t.Fatalf("Send of %d, where %d are left, is %d", n, left, err)
	}
}

// lay lays what a side sends on its way: each datagram so many times at least, and at most twice.
func (w *way) lay(side, least int) {
	w.t.Helper()
	l, err := w.sides[side].m.Frames(w.now)
	want(w.t, "Frames", err, api.OK)
	to := w.sides[1-side]
	for _, d := range l {
		for range max(w.r.IntN(3), least) {
			to.way = append(to.way, d)
		}
		to.old = append(to.old, d)
	}
}

// bring brings a side a datagram, and keeps the messages that come out.
func (w *way) bring(side int, d []byte) {
	w.t.Helper()
	s := w.sides[side]
	l, err := s.m.Take(d)
	want(w.t, "Take", err, api.OK)
	for _, x := range l {
		s.out[x.Channel] = append(s.out[x.Channel], string(x.Body))
		s.many++
	}
}

// come brings a side one of the datagrams on their way, by chance, and now and then an old one.
func (w *way) come(side int) {
	w.t.Helper()
	s := w.sides[side]
	if len(s.old) > 0 && w.r.IntN(5) == 0 {
		w.bring(side, s.old[w.r.IntN(len(s.old))])
	}
	if len(s.way) > 0 {
		k := w.r.IntN(len(s.way))
		d := s.way[k]
		s.way = slices.Delete(s.way, k, k+1)
		w.bring(side, d)
	}
}

// use uses some of what a side holds.
func (w *way) use(side int, all bool) {
	w.t.Helper()
	m := w.sides[side].m
	for channel := range 5 {
		if held := m.Held(channel); held > 0 {
			n := held
			if !all {
				n = w.r.IntN(held + 1)
			}
			want(w.t, "Use", m.Use(channel, n), api.OK)
		}
	}
}

// holds asks what must hold at all times: what came out of a side is a first part of what the other one sent, channel by channel, what is held is never above the limit, and no stream is broken.
func (w *way) holds() {
	w.t.Helper()
	for side, s := range w.sides {
		for channel, out := range s.out {
			sent := w.sides[1-side].sent[channel]
			if len(out) > len(sent) || len(out) > 0 && out[len(out)-1] != sent[len(out)-1] {
				w.t.Fatalf("channel %d: of %d messages sent %d came out, or others", channel, len(sent), len(out))
			}
			if held := s.m.Held(channel); held < 0 || held > w.limit {
				w.t.Fatalf("channel %d: %d is held, above %d", channel, held, w.limit)
			}
		}
		if s.m.Broken() || s.m.Waits() > 64+3 {
			w.t.Fatalf("broken: %t, %d wait", s.m.Broken(), s.m.Waits())
		}
	}
}

// drain lets all that waits come through, and be used.
func (w *way) drain() {
	w.t.Helper()
	for range 400 {
		w.now += 5
		for side, s := range w.sides {
			w.use(side, true)
			w.lay(side, 1)
			for len(s.way) > 0 {
				w.come(side)
			}
		}
		if w.sides[0].m.Idle() && w.sides[1].m.Idle() && len(w.sides[0].way)+len(w.sides[1].way) == 0 {
			return
		}
	}
	w.t.Fatal("it does not come to an end")
}

// wantAllOut asks that all that was sent has come out, whole and in order, and that at least half the limit may be spent again.
func (w *way) wantAllOut() {
	w.t.Helper()
	for side, s := range w.sides {
		for channel, out := range s.out {
			if !slices.Equal(out, w.sides[1-side].sent[channel]) {
				w.t.Fatalf("channel %d: %d messages sent, %d came out, or others", channel, len(w.sides[1-side].sent[channel]), len(out))
			}
			if left := s.m.Left(channel); owns(side, channel) && (2*left < w.limit || left < 1) {
				w.t.Fatalf("channel %d: %d is left of %d", channel, left, w.limit)
			}
			if held := s.m.Held(channel); held != 0 {
				w.t.Fatalf("channel %d: %d is held", channel, held)
			}
		}
	}
}

// P10.4, P10.5: over a way that delays, doubles, mixes and loses datagrams what was told OK of sending comes out whole, channel by channel in order, each once; no stream breaks; what is held is at most the limit; what was used is spent again.
func TestBadWay(t *testing.T) {
	for seed, limit := range []int{1, 2, 3, 10, 255, 256, 300, 1000, 4097, 8191, 8192} {
		w := wayOf(t, uint64(seed), limit)
		for range 4 {
			for range 800 {
				side := w.r.IntN(2)
				switch w.r.IntN(7) {
				case 0, 1:
					w.say(side)
				case 2, 3:
					w.now += w.r.Int64N(6)
					w.lay(side, 0)
				case 4, 5:
					for range w.r.IntN(4) {
						w.come(side)
					}
				case 6:
					w.use(side, false)
				}
				w.holds()
			}
			w.drain()
			w.wantAllOut()
		}
		if a, b := w.sides[0].many, w.sides[1].many; a < 30 || b < 30 {
			t.Errorf("limit %d: only %d and %d messages came out", limit, a, b)
		}
	}
}
