package mux_test

import (
	"math"
	"testing"

	"longwire/api"
	"longwire/arq"
	"longwire/mux"
)

// P10.1: the chapter's numbers.
func TestNumbers(t *testing.T) {
	if mux.Command != 0 || mux.Signal != 1 || mux.Stdout != 2 || mux.Stderr != 3 || mux.Status != 4 || mux.Grant != 5 {
		t.Error("the channels have other numbers")
	}
	if mux.Up != 0 || mux.Down != 1 || mux.MaxParts != 64 {
		t.Error("the sides, or MaxParts, have other numbers")
	}
}

// P10.1 to P10.5: the chapter's row.
func TestExample(t *testing.T) {
	b, far := lineOf(t, 300)
	want(t, "Send of 299 bytes", b.m.Send(message(command, 299)), api.OK)
	wantCounts(t, b.m, counts{left: lefts{command: 0, signal: 300}, waits: 2})
	want(t, "Send of 0 more", b.m.Send(message(command, 0)), api.ErrBusy)
	wantMessages(t, through(t, b, far), message(command, 299))
	want(t, "Send of 0 more, where nothing is used", b.m.Send(message(command, 0)), api.ErrBusy)
	want(t, "Use", far.m.Use(command, 300), api.OK)
	want(t, "Send of 0 more, ahead of the grant", b.m.Send(message(command, 0)), api.ErrBusy)
	wantMessages(t, through(t, far, b))
	want(t, "Send of 0 more, behind the grant", b.m.Send(message(command, 0)), api.OK)
	wantMessages(t, through(t, b, far), message(command, 0))
}

// P10.1: a new mux has nothing in its row, and may send as much as the limit on its own channels, and on no other ones.
func TestNew(t *testing.T) {
	for _, limit := range []int{1, 2, 3, 300, 8191, 8192} {
		up, down := benchOf(t, mux.Up, limit), benchOf(t, mux.Down, limit)
		for range 2 { // what is asked changes nothing
			wantCounts(t, up.m, counts{left: lefts{command: limit, signal: limit}, idle: true})
			wantCounts(t, down.m, counts{left: lefts{stdout: limit, stderr: limit, status: limit}, idle: true})
		}
		up.wantSent()
		down.wantSent()
	}
}

// P10.1: sides that are none, limits that credit refuses, and ends that are none are refused; an end that is none is told last.
func TestNewRefuses(t *testing.T) {
	var declared arq.End
	none := []*arq.End{nil, {}, &declared, declared.Copy()}
	ends := append([]*arq.End{endOf(t, config(), 100)}, none...)
	for _, e := range ends {
		for _, side := range []int{-1, 2, 3, 4, 5, 255, 256, math.MinInt, math.MaxInt} {
			for _, limit := range []int{300, 0} {
				wantNoMux(t, side, limit, e, api.ErrArg)
			}
		}
		for _, limit := range []int{0, -1, -300, 8193, 8194, 1 << 16, 1 << 32, 1<<32 + 1, math.MinInt, math.MaxInt} {
			wantNoMux(t, mux.Up, limit, e, api.ErrArg)
			wantNoMux(t, mux.Down, limit, e, api.ErrArg)
		}
	}
	for _, e := range none {
		wantNoMux(t, mux.Up, 300, e, api.ErrNil)
		wantNoMux(t, mux.Down, 300, e, api.ErrNil)
	}
}

// wantNoMux asks that New tells no mux, and an error.
func wantNoMux(t *testing.T, side, limit int, e *arq.End, err api.Errno) {
	t.Helper()
	if m, got := mux.New(side, limit, e); m != nil || got != err {
		t.Errorf("New(%d, %d, %v) is %v, %d, want none, %d", side, limit, e, m, got, err)
	}
}

// P10.1: what New refuses changes nothing of the end.
func TestNewChangesNoEnd(t *testing.T) {
	b := benchOf(t, mux.Up, 300)
	b.own.Send([]byte("x"), b.now)
	was := b.own.Copy()
	mux.New(2, 300, b.own)
	mux.New(mux.Up, 0, b.own)
	if m, err := mux.New(mux.Up, 300, b.own); m == nil || err != api.OK {
		t.Fatalf("New is %v, %d", m, err)
	}
	wantGrams(t, b.own.Frames(b.now), was.Frames(b.now))
}

// P10.1: the end is the very one: what others sent by it, ahead of New and behind it, stands in the stream where it was sent.
func TestTheVeryEnd(t *testing.T) {
	own, other := endOf(t, config(), 100), endOf(t, across(config()), 100)
	own.Send([]byte("ahead of New"), 0)
	m, err := mux.New(mux.Down, 300, own)
	want(t, "New", err, api.OK)
	b := &bench{t, m, own, other, 0}
	wantCounts(t, m, counts{left: lefts{stdout: 300, stderr: 300, status: 300}}) // the window is not empty: it is not idle
	want(t, "Send", m.Send(mux.Message{Channel: stdout, Body: []byte("a")}), api.OK)
	own.Send([]byte("while a part waits"), 0)
	b.wantSent("ahead of New", "while a part waits", part(stdout, 1, "a"))
	want(t, "Send", m.Send(mux.Message{Channel: stdout, Body: []byte("b")}), api.OK)
	if l, err := m.Frames(0); len(l) != 1 || err != api.OK {
		t.Fatalf("Frames is %x, %d", l, err)
	}
	own.Send([]byte("behind it"), 0)
	b.now = 10
	b.wantSent(part(stdout, 1, "b"), "behind it")
	wantCounts(t, m, counts{left: lefts{stdout: 296, stderr: 300, status: 300}, idle: true})
}

// P10.1 to P10.3: a mux that is none, or that New did not make, refuses all, also what is wrong beside that.
func TestNone(t *testing.T) {
	var none *mux.Mux
	var declared mux.Mux
	datagram := benchOf(t, mux.Up, 300).in(part(stdout, 1, "a"))[0]
	for _, m := range []*mux.Mux{none, {}, new(mux.Mux), &declared} {
		for channel := -1; channel <= 6; channel++ {
			for _, long := range []int{0, 1, 4096, 4097} {
				want(t, "Send", m.Send(message(channel, long)), api.ErrNil)
			}
			for _, n := range []int{0, 1, -1, math.MinInt, math.MaxInt} {
				want(t, "Use", m.Use(channel, n), api.ErrNil)
			}
		}
		for _, b := range [][]byte{nil, {}, {1, 2, 3}, datagram} {
			if l, err := m.Take(b); len(l) != 0 || err != api.ErrNil {
				t.Errorf("Take is %v, %d", l, err)
			}
		}
		for _, now := range []int64{0, -1, latest, latest + 1, math.MinInt64, math.MaxInt64} {
			if l, err := m.Frames(now); len(l) != 0 || err != api.ErrNil {
				t.Errorf("Frames is %x, %d", l, err)
			}
		}
		wantCounts(t, m, counts{})
	}
}
