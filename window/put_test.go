package window_test

import (
	"bytes"
	"math"
	"testing"

	"longwire/api"
	"longwire/window"
)

// wantSame asks that a window's items are those that another one has, by what becomes of copies of both.
func wantSame(t *testing.T, w, other *window.Window) {
	t.Helper()
	wantCounts(t, w, countsOf(other))
	a, b := w.Copy(), other.Copy()
	for a.Len() > 0 {
		wakes, _ := b.Wakes()
		wantItems(t, a.Due(wakes), b.Due(wakes))
		wantItems(t, a.Due(latest), b.Due(latest))
		wantCounts(t, a, countsOf(b))
		lowest := b.Next() - uint32(b.Len())
		wantAck(t, a, lowest+1, 0, b.Ack(lowest+1, 0))
	}
}

// P6.1: Put gives numbers from 0 on, each once, at all payloads and times that may be.
func TestPut(t *testing.T) {
	w := windowOf(t, 40, 10, 30)
	payloads := [][]byte{nil, {}, {0}, []byte("a"), bytes.Repeat([]byte{255}, 255), bytes.Repeat([]byte{7}, 256)}
	times := []int64{0, 1, 5, 65536, latest - 1, latest}
	for n := range uint32(40) {
		p, now := payloads[n%6], times[n/6%6]
		wantPut(t, w, p, now, n, api.OK)
		wantCounts(t, w, counts{1, len(p), n + 1, 39 - n, now, true})
		wantItems(t, w.Due(now), []window.Item{{Number: n, Payload: p, Tries: 1}})
		wantAck(t, w, n+1, 0, 1)
	}
	wantPut(t, w, nil, 0, 0, api.ErrFull)
}

// P6.1, P6.4: at most 16 are kept; with room again, the next number is given.
func TestPutBusy(t *testing.T) {
	w := filled(t, 16)
	for range 3 {
		wantPut(t, w, payloadOf(16), 5, 0, api.ErrBusy)
	}
	wantCounts(t, w, counts{16, 48, 16, 984, 5, true})
	wantAck(t, w, 0, 1<<3, 1) // number 4 alone
	wantPut(t, w, payloadOf(16), 5, 16, api.OK)
	wantPut(t, w, payloadOf(17), 5, 0, api.ErrBusy)
	wantDue(t, w, 5, 1, 0, 1, 2, 3, 5, 6, 7, 8, 9, 10, 11, 12, 13, 14, 15, 16)
	wantPut(t, w, payloadOf(17), 5, 0, api.ErrBusy)
	wantAck(t, w, 17, 0, 16)
	wantPut(t, w, payloadOf(17), 5, 17, api.OK)
}

// P6.1: behind the last number none is given, for ever, also where there is room.
func TestPutFull(t *testing.T) {
	for _, limit := range []int{1, 2, 15, 16} {
		w := windowOf(t, uint32(limit), 10, 30)
		putAll(t, w, limit, 5)
		want := api.ErrFull
		if limit == 16 {
			want = api.ErrBusy
		}
		wantPut(t, w, nil, 5, 0, want)
		wantAck(t, w, 1, 0, 1)
		for range 100 {
			wantPut(t, w, nil, 5, 0, api.ErrFull)
		}
		wantAck(t, w, uint32(limit), 0, limit-1)
		for range 100 {
			wantPut(t, w, nil, 5, 0, api.ErrFull)
		}
		wantCounts(t, w, counts{next: uint32(limit)})
	}
}

// P6.1, R2, R5: each error and all of them that meet: the first one of the chapter's order is told, and nothing is changed.
func TestPutErrors(t *testing.T) {
	type row struct {
		name string
		make func() *window.Window
		e    api.Errno // what hangs on the window, behind ErrArg and ErrLong
	}
	rows := []row{
		{"room", func() *window.Window { return filled(t, 3) }, api.OK},
		{"busy", func() *window.Window { return filled(t, 16) }, api.ErrBusy},
		{"busy and full", func() *window.Window {
			w := windowOf(t, 16, 10, 30)
			putAll(t, w, 16, 5)
			return w
		}, api.ErrBusy},
		{"full", func() *window.Window {
			w := windowOf(t, 16, 10, 30)
			putAll(t, w, 16, 5)
			wantAck(t, w, 2, 0, 2)
			return w
		}, api.ErrFull},
		{"full and empty", func() *window.Window {
			w := windowOf(t, 16, 10, 30)
			putAll(t, w, 16, 5)
			wantAck(t, w, 16, 0, 16)
			return w
		}, api.ErrFull},
	}
	for _, w := range noWindows() {
		rows = append(rows, row{"none", func() *window.Window { return w }, api.ErrNil})
	}
	for _, r := range rows {
		for _, now := range []int64{0, 5, latest, -1, latest + 1, math.MinInt64, math.MaxInt64} {
			for _, long := range []int{0, 256, 257, 258, 65536} {
				want := r.e
				switch {
				case want == api.ErrNil:
				case now < 0 || now > latest:
					want = api.ErrArg
				case long > 256:
					want = api.ErrLong
				}
				w := r.make()
				n, e := w.Put(make([]byte, long), now)
				if e != want || e != api.OK && n != 0 {
					t.Errorf("%s, at %d, %d bytes: %d, %d, want %d", r.name, now, long, n, e, want)
				}
				if e != api.OK && e != api.ErrNil {
					wantSame(t, w, r.make())
				}
			}
		}
	}
}

// P6.1, R3: a payload is kept in new memory: the caller's bytes, and those behind their end, are only read, and may be changed behind Put.
func TestPayloadIsKeptAnew(t *testing.T) {
	for _, long := range []int{1, 3, 255, 256} {
		room := bytes.Repeat([]byte{'a', 'b', 'c', 'd'}, 100)
		was := bytes.Clone(room)
		w := windowOf(t, 16, 10, 30)
		wantPut(t, w, room[:long], 5, 0, api.OK)
		wantPut(t, w, room[1:long], 5, 1, api.OK)
		c := w.Copy()
		for range 3 {
			if !bytes.Equal(room, was) {
				t.Fatal("what was handed in is changed")
			}
			w.Copy().Due(5)
		}
		clear(room)
		for _, w := range []*window.Window{w, c} {
			wantItems(t, w.Due(5), []window.Item{{Payload: was[:long], Tries: 1}, {Number: 1, Payload: was[1:long], Tries: 1}})
		}
	}
}

// P6.2, R3: what Due answers is new memory: it may be changed, and appended to.
func TestDueAnswersAnew(t *testing.T) {
	w := filled(t, 3)
	c := w.Copy()
	for k, now := range []int64{5, 15, 35, 65, 95} {
		first := w.Due(now)
		second := w.Copy().Due(latest)
		for i := range first {
			clear(first[i].Payload)
			_ = append(first[i].Payload, "and more behind it"...)
			first[i].Number, first[i].Tries = 77, 77
		}
		for i, it := range second {
			if !bytes.Equal(it.Payload, payloadOf(uint32(i))) || it.Tries != k+2 {
				t.Fatalf("at %d: %v is another one", now, it)
			}
		}
		wantDue(t, c, now, k+1, 0, 1, 2)
	}
}
