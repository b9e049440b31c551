package credit_test

import (
	"math"
	"testing"

	"longwire/api"
)

// P9.3: what was granted may be taken, to the last one, and not one more; what is refused changes nothing (P9.6).
func TestTake(t *testing.T) {
	for _, limit := range []int{1, 2, 3, 10, maxCredit} {
		all := uint64(limit)
		g := giverOf(t, limit)
		for _, n := range []int{limit + 1, limit + 2, 2*limit + 1, maxCredit + 1, 1 << 31, 1 << 32, math.MaxInt} {
			want(t, "Take of too much", g.Take(n), api.ErrFull)
			wantGiver(t, g, taken{limit, 0, 0, all})
		}
		want(t, "Take of none", g.Take(0), api.OK)
		wantGiver(t, g, taken{limit, 0, 0, all})
		want(t, "Take of all but one", g.Take(limit-1), api.OK)
		wantGiver(t, g, taken{limit, all - 1, 0, all})
		want(t, "Take of two", g.Take(2), api.ErrFull)
		wantGiver(t, g, taken{limit, all - 1, 0, all})
		want(t, "Take of the last", g.Take(1), api.OK)
		wantGiver(t, g, taken{limit, all, 0, all})
		want(t, "Take of one more", g.Take(1), api.ErrFull)
		want(t, "Take of none", g.Take(0), api.OK)
		wantGiver(t, g, taken{limit, all, 0, all})
	}
}

// P9.3: what was used is not taken again till it is granted.
func TestTakeWantsAGrant(t *testing.T) {
	g := giverOf(t, 10)
	want(t, "Take", g.Take(10), api.OK)
	want(t, "Use", g.Use(10), api.OK)
	want(t, "Take ahead of the grant", g.Take(1), api.ErrFull)
	wantGiver(t, g, taken{10, 10, 10, 10})
	wantGrant(t, g, 20)
	want(t, "Take of one more than is granted", g.Take(11), api.ErrFull)
	want(t, "Take behind the grant", g.Take(10), api.OK)
	wantGiver(t, g, taken{10, 20, 10, 20})
}

// P9.3: what was taken may be used, to the last one, and not one more; what is refused changes nothing (P9.6).
func TestUse(t *testing.T) {
	g := giverOf(t, 10)
	want(t, "Use of none", g.Use(0), api.OK)
	want(t, "Use of what was not taken", g.Use(1), api.ErrArg)
	wantGiver(t, g, taken{10, 0, 0, 10})
	want(t, "Take", g.Take(7), api.OK)
	for _, n := range []int{8, 9, 10, 11, maxCredit, 1 << 31, 1 << 32, 1<<32 + 1, math.MaxInt} {
		want(t, "Use of too much", g.Use(n), api.ErrArg)
		wantGiver(t, g, taken{10, 7, 0, 10})
	}
	want(t, "Use of one", g.Use(1), api.OK)
	wantGiver(t, g, taken{10, 7, 1, 10})
	want(t, "Use of one more than is held", g.Use(7), api.ErrArg)
	wantGiver(t, g, taken{10, 7, 1, 10})
	want(t, "Use of what is held", g.Use(6), api.OK)
	wantGiver(t, g, taken{10, 7, 7, 10})
	want(t, "Use of one more", g.Use(1), api.ErrArg)
	want(t, "Use of none", g.Use(0), api.OK)
	wantGiver(t, g, taken{10, 7, 7, 10})
}

// P9.3: an amount below 0 is refused, whatever was taken and used, and changes nothing (P9.6).
func TestGiverBelowNone(t *testing.T) {
	g := giverOf(t, 10)
	for _, n := range []int{0, 4, 6} {
		want(t, "Take", g.Take(n), api.OK)
		want(t, "Use", g.Use(n/2), api.OK)
		was := *g
		for _, low := range []int{-1, -2, -10, -11, math.MinInt32, math.MinInt + 1, math.MinInt} {
			want(t, "Take of an amount below 0", g.Take(low), api.ErrArg)
			want(t, "Use of an amount below 0", g.Use(low), api.ErrArg)
		}
		if *g != was {
			t.Error("an amount below 0 changed the end")
		}
	}
	wantGiver(t, g, taken{10, 10, 5, 10})
}

// P9.3: a grant is due just when half the limit was used, the lower half, but at least 1; behind it none is due.
func TestGrant(t *testing.T) {
	for _, row := range []struct{ limit, half int }{
		{1, 1}, {2, 1}, {3, 1}, {4, 2}, {5, 2}, {6, 3}, {7, 3}, {10, 5}, {11, 5}, {255, 127}, {256, 128},
		{maxCredit - 1, maxCredit/2 - 1}, {maxCredit, maxCredit / 2},
	} {
		limit, half := uint64(row.limit), uint64(row.half)
		g := giverOf(t, row.limit)
		granted, used := limit, uint64(0)
		for range 5 {
			want(t, "Take", g.Take(row.half), api.OK)
			wantNoGrant(t, g)
			want(t, "Use of one less than half", g.Use(row.half-1), api.OK)
			wantNoGrant(t, g)
			wantGiver(t, g, taken{row.limit, used + half, used + half - 1, granted})
			want(t, "Use of the one", g.Use(1), api.OK)
			used += half
			granted += half
			wantGrant(t, g, granted)
			wantNoGrant(t, g)
			wantGiver(t, g, taken{row.limit, used, used, granted})
		}
	}
}

// P9.3: a grant is just what was used and the limit together, however much more than half that is; what is held is not granted.
func TestGrantOfMore(t *testing.T) {
	for _, limit := range []int{1, 2, 3, 10, 11, maxCredit} {
		for used := max(limit/2, 1); used <= limit; used += max(limit/7, 1) {
			g := giverOf(t, limit)
			want(t, "Take", g.Take(limit), api.OK)
			wantNoGrant(t, g)
			want(t, "Use", g.Use(used), api.OK)
			total := uint64(used) + uint64(limit)
			wantGrant(t, g, total)
			wantNoGrant(t, g)
			wantGiver(t, g, taken{limit, uint64(limit), uint64(used), total})
		}
	}
}

// P9.3: a grant that is due and not asked for is due yet, and grows; one that is not due changes nothing.
func TestGrantWaits(t *testing.T) {
	g := giverOf(t, 10)
	want(t, "Take", g.Take(10), api.OK)
	for _, used := range []uint64{1, 2, 3, 4} {
		want(t, "Use", g.Use(1), api.OK)
		wantNoGrant(t, g)
		wantGiver(t, g, taken{10, 10, used, 10})
	}
	want(t, "Use", g.Use(3), api.OK)
	want(t, "Take ahead of the grant", g.Take(1), api.ErrFull)
	want(t, "Use", g.Use(1), api.OK)
	wantGrant(t, g, 18)
	want(t, "Use of the rest", g.Use(2), api.OK)
	wantNoGrant(t, g)
	wantGiver(t, g, taken{10, 10, 10, 18})
	want(t, "Take", g.Take(3), api.OK)
	want(t, "Use", g.Use(3), api.OK)
	wantGrant(t, g, 23)
}

// P9.3: with a limit of 1 each one that is used is granted anew.
func TestGrantOfOne(t *testing.T) {
	g := giverOf(t, 1)
	for n := range uint64(100) {
		wantNoGrant(t, g)
		want(t, "Take", g.Take(1), api.OK)
		wantHeld(t, g, 1)
		wantNoGrant(t, g)
		want(t, "Use", g.Use(1), api.OK)
		wantGrant(t, g, n+2)
	}
}

// P9.3: what was taken, used and granted in all goes on beyond numbers of 16 and 32 bits, which are not held by less.
func TestGrantGoesOn(t *testing.T) {
	g := giverOf(t, maxCredit)
	done := uint64(0)
	for done < 1<<33+maxCredit {
		if g.Take(maxCredit) != api.OK || g.Use(maxCredit) != api.OK {
			t.Fatalf("Take, or Use, is refused behind %d", done)
		}
		done += maxCredit
		if total, due := g.Grant(); total != done+maxCredit || !due {
			t.Fatalf("Grant is %d, %t behind %d", total, due, done)
		}
	}
	wantGiver(t, g, taken{maxCredit, done, done, done + maxCredit})
}
