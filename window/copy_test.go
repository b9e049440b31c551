package window_test

import (
	"sync"
	"testing"

	"longwire/api"
	"longwire/window"
)

// P6.3: a copy is as the first one is, at whatever place that is.
func TestCopy(t *testing.T) {
	w := filled(t, 6)
	steps := []func(){
		func() {},
		func() { w.Due(5) },
		func() { w.Due(15) },
		func() { wantAck(t, w, 1, 0b10, 2) },
		func() { putAll(t, w, 3, 17) },
		func() { w.Due(35) },
	}
	for _, step := range steps {
		step()
		wantSame(t, w.Copy(), w)
		wantSame(t, w.Copy().Copy(), w)
	}
	empty := windowOf(t, 3, 10, 30).Copy()
	wantCounts(t, empty, counts{left: 3})
	putAll(t, empty, 3, 4)
	wantPut(t, empty, nil, 4, 0, api.ErrFull)
	wantDue(t, empty, 4, 1, 0, 1, 2)
	wantDue(t, empty, 14, 2, 0, 1, 2)
	wantDue(t, empty, 34, 3, 0, 1, 2)
	wantWakes(t, empty, 64)
}

// apart does all that changes a window to one, and asks that another one stays as it was.
func apart(t *testing.T, one, other *window.Window) {
	t.Helper()
	was := other.Copy()
	putAll(t, one, 2, 6)
	wantSame(t, other, was)
	for _, it := range one.Due(16) {
		clear(it.Payload)
	}
	wantSame(t, other, was)
	wantAck(t, one, 2, 0b1, 3)
	wantSame(t, other, was)
	wantAck(t, one, one.Next(), 0, one.Len())
	wantSame(t, other, was)
	putAll(t, one, 16, 7)
	wantPut(t, one, nil, 7, 0, api.ErrBusy)
	wantSame(t, other, was)
	wantPut(t, other, payloadOf(6), 5, 6, api.OK)
	wantDue(t, other, 5, 1, 0, 1, 2, 3, 4, 5, 6)
}

// P6.3: a copy and its first one live apart, both ways.
func TestCopyLivesApart(t *testing.T) {
	w := filled(t, 6)
	apart(t, w.Copy(), w)
	w = filled(t, 6)
	apart(t, w, w.Copy())
	w = filled(t, 6)
	c := w.Copy()
	apart(t, c.Copy(), c)
	wantSame(t, w, filled(t, 6))
}

// P6.3: windows live apart, also where they are used at one time, and copies are made of one at one time.
func TestWindowsLiveApart(t *testing.T) {
	shared := filled(t, 16)
	var wait sync.WaitGroup
	for k := range uint32(8) {
		wait.Go(func() {
			own := shared.Copy()
			if n := own.Ack(k, 0); n != int(k) || own.Len() != 16-int(k) {
				t.Errorf("Ack of %d: %d, Len %d", k, n, own.Len())
			}
			if l := own.Due(5); len(l) != own.Len() {
				t.Errorf("%d are due, %d are kept", len(l), own.Len())
			}
			if countsOf(shared) != (counts{16, 48, 16, 984, 5, true}) {
				t.Errorf("counts %v", countsOf(shared))
			}
		})
	}
	wait.Wait()
	wantSame(t, shared, filled(t, 16))
}
