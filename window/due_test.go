package window_test

import (
	"math"
	"slices"
	"testing"

	"longwire/api"
	"longwire/window"
)

// P6.2, P6.5: the chapter's row, at each tick.
func TestDueExample(t *testing.T) {
	w := windowOf(t, 16, 10, 30)
	wantPut(t, w, payloadOf(0), 5, 0, api.OK)
	var at []int64
	for now := range int64(100) {
		for _, it := range w.Due(now) {
			at = append(at, now)
			if it.Number != 0 || it.Tries != len(at) {
				t.Fatalf("at %d: %v", now, it)
			}
		}
	}
	if want := []int64{5, 15, 35, 65, 95}; !slices.Equal(at, want) {
		t.Errorf("due at %d, want %d", at, want)
	}
}

// wantWaits asks that a payload, put at now, is due again behind just these waits, and with one more Tries each.
func wantWaits(t *testing.T, first, most, now int64, waits ...int64) {
	t.Helper()
	w := windowOf(t, 16, first, most)
	wantPut(t, w, payloadOf(0), now, 0, api.OK)
	for k, wait := range waits {
		wantWakes(t, w, now)
		if now > 0 {
			wantDue(t, w, now-1, 0)
		}
		wantDue(t, w, now, k+1, 0)
		wantDue(t, w, now, 0)
		now += wait
	}
	wantWakes(t, w, now)
}

// P6.2, P6.5: waits double up to Most, whatever First and Most are.
func TestWaits(t *testing.T) {
	wantWaits(t, 10, 30, 5, 10, 20, 30, 30, 30)
	wantWaits(t, 1, 1, 0, 1, 1, 1, 1)
	wantWaits(t, 7, 7, 3, 7, 7, 7)
	wantWaits(t, 7, 13, 3, 7, 13, 13)
	wantWaits(t, 7, 14, 3, 7, 14, 14)
	wantWaits(t, 7, 15, 3, 7, 14, 15, 15)
	wantWaits(t, 1, 100, 0, 1, 2, 4, 8, 16, 32, 64, 100, 100)
	wantWaits(t, 8, 64, 1000, 8, 16, 32, 64, 64)
	wantWaits(t, 1<<38, latest/2, 0, 1<<38, 1<<39)
	wantWaits(t, 1<<38+1, latest/2+1, 0, 1<<38+1, 1<<39+1)
}

// P6.2, P6.5: a wait of each power of two, up to the greatest; behind so many times it is no more than Most.
func TestGreatWaits(t *testing.T) {
	w := windowOf(t, 16, 1, latest)
	wantPut(t, w, payloadOf(0), 0, 0, api.OK)
	now := int64(0)
	for k := range 40 {
		wantDue(t, w, now, k+1, 0)
		now += 1 << k
		wantWakes(t, w, now)
	}
	wantDue(t, w, latest, 41, 0)
	wantWakes(t, w, 2*latest)
}

// P6.2: Tries rise by one each, and the wait stays at Most, for very many times.
func TestManyTries(t *testing.T) {
	w := windowOf(t, 16, 3, 50)
	wantPut(t, w, payloadOf(0), 0, 0, api.OK)
	now := int64(0)
	for k := range 10000 {
		wantDue(t, w, now, k+1, 0)
		wakes, _ := w.Wakes()
		if k >= 5 && wakes != now+50 {
			t.Fatalf("behind %d times a wait of %d, want 50", k+1, wakes-now)
		}
		now = wakes
	}
}

// P6.2: near MaxTicks a wait is a wait: what is due behind MaxTicks then is due no more, as there is no such time.
func TestWaitsNearTheEnd(t *testing.T) {
	for _, c := range []struct{ first, most, put, wakes int64 }{
		{10, 30, latest, latest + 10},
		{10, 30, latest - 9, latest + 1},
		{10, 30, latest - 10, latest},
		{1, 1, latest - 1, latest},
		{latest, latest, 0, latest},
		{latest, latest, 1, latest + 1},
		{latest, latest, latest, 2 * latest},
	} {
		w := windowOf(t, 16, c.first, c.most)
		wantPut(t, w, payloadOf(0), c.put, 0, api.OK)
		wantDue(t, w, c.put, 1, 0)
		wantWakes(t, w, c.wakes)
		for _, now := range []int64{latest, latest + 1, c.wakes, math.MaxInt64} {
			if c.wakes > latest {
				wantDue(t, w, now, 0)
			}
		}
		if c.wakes == latest {
			wantDue(t, w, latest-1, 0)
			wantDue(t, w, latest, 2, 0)
			wantWakes(t, w, latest+min(2*c.first, c.most))
		}
	}
	w := windowOf(t, 16, 10, 30)
	wantPut(t, w, payloadOf(0), latest-60, 0, api.OK)
	for k, now := range []int64{latest - 60, latest - 50, latest - 30, latest} {
		wantDue(t, w, now, k+1, 0)
	}
	wantWakes(t, w, latest+30)
}

// P6.2: a now below 0 is 0, and one above MaxTicks is MaxTicks.
func TestDueAtWrongTimes(t *testing.T) {
	for _, now := range []int64{-1, -5, math.MinInt64, math.MinInt64 + 1} {
		w := windowOf(t, 16, 10, 30)
		wantPut(t, w, payloadOf(0), 0, 0, api.OK)
		wantPut(t, w, payloadOf(1), 1, 1, api.OK)
		wantDue(t, w, now, 1, 0)
		wantWakes(t, w, 1)
		wantDue(t, w, 1, 1, 1)
		wantWakes(t, w, 10)
		wantDue(t, w, now, 0)
	}
	for _, now := range []int64{latest + 1, latest + 1000, math.MaxInt64 - 1, math.MaxInt64} {
		w := windowOf(t, 16, 10, 30)
		wantPut(t, w, payloadOf(0), latest, 0, api.OK)
		wantPut(t, w, payloadOf(1), 7, 1, api.OK)
		wantDue(t, w, now, 1, 0, 1)
		wantWakes(t, w, latest+10)
		wantDue(t, w, now, 0)
	}
}

// P6.2: time may go back: what is due hangs on the tick of each alone, and its wait is behind the now of the call.
func TestDueGoingBack(t *testing.T) {
	w := windowOf(t, 16, 10, 30)
	wantPut(t, w, payloadOf(0), 5, 0, api.OK)
	wantDue(t, w, 100, 1, 0)
	wantWakes(t, w, 110)
	wantDue(t, w, 50, 0)
	wantPut(t, w, payloadOf(1), 40, 1, api.OK)
	wantWakes(t, w, 40)
	wantDue(t, w, 39, 0)
	wantDue(t, w, 40, 1, 1)
	wantWakes(t, w, 50)
	wantDue(t, w, 0, 0)
	wantDue(t, w, -1, 0)
	wantDue(t, w, 49, 0)
	wantDue(t, w, 60, 2, 1)
	wantWakes(t, w, 80)
	wantDue(t, w, 109, 3, 1)
	wantDue(t, w, 110, 2, 0)
	wantWakes(t, w, 130)
}

// P6.2: what was due earlier, and not asked for, is due once, and its wait is behind now, not behind that tick.
func TestDueLate(t *testing.T) {
	w := filled(t, 2)
	wantDue(t, w, 1000, 1, 0, 1)
	wantDue(t, w, 1009, 0)
	wantWakes(t, w, 1010)
	wantDue(t, w, 5000, 2, 0, 1)
	wantWakes(t, w, 5020)
	wantDue(t, w, 5019, 0)
	wantDue(t, w, 5020, 3, 0, 1)
	wantWakes(t, w, 5050)
}

// P6.2: just those that are due are told, by rising numbers, whatever their ticks and Tries are.
func TestDueByRisingNumbers(t *testing.T) {
	w := windowOf(t, 100, 10, 30)
	for n, at := range []int64{50, 20, 40, 10, 30, 20, 0, 60} {
		wantPut(t, w, payloadOf(uint32(n)), at, uint32(n), api.OK)
	}
	item := func(n uint32, tries int) window.Item {
		return window.Item{Number: n, Payload: payloadOf(n), Tries: tries}
	}
	for _, c := range []struct {
		now  int64
		want []window.Item
	}{
		{0, []window.Item{item(6, 1)}},
		{9, nil},
		{10, []window.Item{item(3, 1), item(6, 2)}},
		{20, []window.Item{item(1, 1), item(3, 2), item(5, 1)}},
		{30, []window.Item{item(1, 2), item(4, 1), item(5, 2), item(6, 3)}},
		{60, []window.Item{item(0, 1), item(1, 3), item(2, 1), item(3, 3), item(4, 2), item(5, 3), item(6, 4), item(7, 1)}},
		{70, []window.Item{item(0, 2), item(2, 2), item(7, 2)}},
	} {
		wantItems(t, w.Due(c.now), c.want)
	}
}

// P6.2, R7: full windows tell their items by rising numbers, and the same ones, each time they are made.
func TestDueIsTheSameAgain(t *testing.T) {
	for range 200 {
		w := filled(t, 16)
		wantAck(t, w, 5, 0b1010, 7) // 0 to 4, 7 and 9
		putAll(t, w, 7, 5)
		wantDue(t, w, 5, 1, 5, 6, 8, 10, 11, 12, 13, 14, 15, 16, 17, 18, 19, 20, 21, 22)
	}
}

// P6.5: a payload put is due at once, at the tick of Put, also between those that wait, and was not a tick earlier.
func TestPutIsDueAtOnce(t *testing.T) {
	for _, at := range []int64{0, 1, 5, 12345, latest - 1, latest} {
		w := windowOf(t, 16, 10, 30)
		for n := range uint32(16) {
			wantPut(t, w, payloadOf(n), at, n, api.OK)
			wantWakes(t, w, at)
			if at > 0 {
				wantDue(t, w.Copy(), at-1, 0)
			}
			wantDue(t, w, at, 1, n)
			wantDue(t, w, at, 0)
		}
	}
}
