package credit_test

import (
	"math"
	"testing"

	"longwire/api"
)

// P9.2: what was granted may be spent, to the last one, and not one more; what is refused changes nothing (P9.6).
func TestSpend(t *testing.T) {
	for _, limit := range []int{1, 2, 3, 10, maxCredit} {
		all := uint64(limit)
		s := spenderOf(t, limit)
		for _, n := range []int{limit + 1, limit + 2, 2*limit + 1, maxCredit + 1, 1 << 31, 1 << 32, math.MaxInt} {
			want(t, "Spend of too much", s.Spend(n), api.ErrBusy)
			wantSpender(t, s, spent{limit, 0, all})
		}
		want(t, "Spend of none", s.Spend(0), api.OK)
		wantSpender(t, s, spent{limit, 0, all})
		want(t, "Spend of all but one", s.Spend(limit-1), api.OK)
		wantSpender(t, s, spent{limit, all - 1, all})
		want(t, "Spend of two", s.Spend(2), api.ErrBusy)
		wantSpender(t, s, spent{limit, all - 1, all})
		want(t, "Spend of the last", s.Spend(1), api.OK)
		wantSpender(t, s, spent{limit, all, all})
		want(t, "Spend of one more", s.Spend(1), api.ErrBusy)
		want(t, "Spend of none", s.Spend(0), api.OK)
		wantSpender(t, s, spent{limit, all, all})
	}
}

// P9.2: an amount below 0 is refused, whatever is left, and changes nothing (P9.6).
func TestSpendBelowNone(t *testing.T) {
	s := spenderOf(t, 10)
	for _, n := range []int{0, 4, 6} {
		want(t, "Spend", s.Spend(n), api.OK)
		was := *s
		for _, low := range []int{-1, -4, -10, -11, math.MinInt32, math.MinInt + 1, math.MinInt} {
			want(t, "Spend of an amount below 0", s.Spend(low), api.ErrArg)
		}
		if *s != was {
			t.Error("an amount below 0 changed the end")
		}
	}
	wantSpender(t, s, spent{10, 10, 10})
}

// P9.2: a total above what was granted is granted; one that is not changes nothing.
func TestGranted(t *testing.T) {
	s := spenderOf(t, 10)
	want(t, "Spend", s.Spend(7), api.OK)
	for _, total := range []uint64{0, 1, 6, 7, 9, 10} {
		want(t, "Granted of no more", s.Granted(total), api.OK)
		wantSpender(t, s, spent{10, 7, 10})
	}
	want(t, "Granted of one more", s.Granted(11), api.OK)
	wantSpender(t, s, spent{10, 7, 11})
	want(t, "Granted of three more", s.Granted(14), api.OK)
	wantSpender(t, s, spent{10, 7, 14})
	want(t, "Granted of what may be", s.Granted(17), api.OK)
	wantSpender(t, s, spent{10, 7, 17})
	for _, total := range []uint64{17, 16, 11, 10, 0} {
		want(t, "Granted of no more", s.Granted(total), api.OK)
		wantSpender(t, s, spent{10, 7, 17})
	}
	want(t, "Spend", s.Spend(10), api.OK)
	wantSpender(t, s, spent{10, 17, 17})
	want(t, "Granted of what was spent", s.Granted(17), api.OK)
	want(t, "Granted of less than was spent", s.Granted(1), api.OK)
	wantSpender(t, s, spent{10, 17, 17})
}

// P9.2: a total that is above what was spent by more than the limit is refused, and changes nothing (P9.6).
func TestGrantedTooMuch(t *testing.T) {
	for _, limit := range []int{1, 2, 3, 10, maxCredit} {
		s := spenderOf(t, limit)
		done, granted := uint64(0), uint64(limit)
		for _, n := range []int{0, 1, limit / 2, limit} {
			n = min(n, s.Left())
			want(t, "Spend", s.Spend(n), api.OK)
			done += uint64(n)
			most := done + uint64(limit)
			for _, total := range []uint64{most + 1, most + 2, most + uint64(limit), 1 << 31, 1 << 32, 1<<32 + most, 1 << 63, 1<<63 + most, math.MaxUint64 - most, math.MaxUint64 - 1, math.MaxUint64} {
				if total <= most {
					continue
				}
				want(t, "Granted of too much", s.Granted(total), api.ErrRange)
				wantSpender(t, s, spent{limit, done, granted})
			}
		}
		want(t, "Granted of all that may be", s.Granted(done+uint64(limit)), api.OK)
		wantSpender(t, s, spent{limit, done, done + uint64(limit)})
	}
}

// P9.2: where nothing was spent nothing more can be granted, as the limit was at first.
func TestGrantedAtFirst(t *testing.T) {
	for _, limit := range []int{1, 2, 3, 10, maxCredit} {
		s := spenderOf(t, limit)
		want(t, "Granted of 0", s.Granted(0), api.OK)
		want(t, "Granted of the limit", s.Granted(uint64(limit)), api.OK)
		want(t, "Granted of one more", s.Granted(uint64(limit)+1), api.ErrRange)
		wantSpender(t, s, spent{limit, 0, uint64(limit)})
	}
}

// P9.2, P9.4: grants that come late, doubled or in another order leave the highest one granted; one that never comes is made up for by the next.
func TestGrantsOutOfOrder(t *testing.T) {
	for _, row := range [][]uint64{
		{12, 15, 18},
		{18, 15, 12},
		{15, 18, 12},
		{18},
		{12, 12, 18, 18, 12, 15, 15},
		{0, 18, 0},
	} {
		s := spenderOf(t, 10)
		want(t, "Spend", s.Spend(8), api.OK)
		for _, total := range row {
			want(t, "Granted", s.Granted(total), api.OK)
		}
		wantSpender(t, s, spent{10, 8, 18})
	}
}

// P9.2: what was spent and granted in all goes on beyond numbers of 16 and 32 bits, which are not held by less.
func TestSpendGoesOn(t *testing.T) {
	s := spenderOf(t, maxCredit)
	done := uint64(0)
	for done < 1<<33+maxCredit {
		if s.Spend(maxCredit) != api.OK {
			t.Fatalf("Spend is refused behind %d", done)
		}
		done += maxCredit
		if s.Granted(done+maxCredit) != api.OK {
			t.Fatalf("Granted is refused behind %d", done)
		}
	}
	wantSpender(t, s, spent{maxCredit, done, done + maxCredit})
	want(t, "Granted of what was granted long ago", s.Granted(done%(1<<32)+1), api.OK)
	wantSpender(t, s, spent{maxCredit, done, done + maxCredit})
}
