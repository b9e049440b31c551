package intake_test

import (
	"math"
	"sync"
	"testing"

	"longwire/api"
	"longwire/intake"
)

// P7.2: a copy is as the first one is, at whatever place that is.
func TestCopy(t *testing.T) {
	i := intake.New()
	for _, n := range []uint32{3, 1, 0, 17, 9, 2, 4, 5, 7, 6, 8, 20, 19} {
		wantSame(t, i.Copy(), i)
		wantSame(t, i.Copy().Copy(), i)
		i.Take(n, payloadOf(n))
	}
	wantCounts(t, i.Copy(), counts{10, 1<<6 | 1<<8 | 1<<9, 3, 9})
	empty := intake.New().Copy()
	wantTaken(t, empty, 1)
	wantTaken(t, empty, 0, 0, 1)
}

// apart does all that changes an intake to one whose floor is 3, and that keeps 5 and 6, and asks that another such one stays as it was.
func apart(t *testing.T, one, other *intake.Intake) {
	t.Helper()
	was := other.Copy()
	wantTaken(t, one, 18)
	wantSame(t, other, was)
	wantTaken(t, one, 3, 3)
	wantSame(t, other, was)
	out, _, _ := one.Take(4, []byte("4"))
	for _, p := range out {
		clear(p)
	}
	wantSame(t, other, was)
	for _, n := range upTo(8, 23) {
		one.Take(n, []byte("other"))
	}
	one.Take(math.MaxUint32, []byte("far"))
	wantCounts(t, one, counts{7, 0x7fff, 15, 14*5 + 3})
	wantSame(t, other, was)
	wantTaken(t, other, 4)
	wantTaken(t, other, 18)
	wantTake(t, other, 19, nil, intake.Far, api.OK)
	wantTaken(t, other, 3, 3, 4, 5, 6)
	wantCounts(t, one, counts{7, 0x7fff, 15, 14*5 + 3})
}

// P7.2: a copy and its first one live apart, both ways.
func TestCopyLivesApart(t *testing.T) {
	i := at(t, 3, 5, 6)
	apart(t, i.Copy(), i)
	i = at(t, 3, 5, 6)
	apart(t, i, i.Copy())
	i = at(t, 3, 5, 6)
	c := i.Copy()
	apart(t, c.Copy(), c)
	wantSame(t, i, at(t, 3, 5, 6))
}

// P7.2: intakes live apart, also where they are used at one time, and copies are made of one at one time.
func TestIntakesLiveApart(t *testing.T) {
	shared := at(t, 3, upTo(4, 19)...)
	var wait sync.WaitGroup
	for range 8 {
		wait.Go(func() {
			own := shared.Copy()
			if out, fate, e := own.Take(3, payloadOf(3)); len(out) != 16 || fate != intake.Taken || e != api.OK {
				t.Errorf("%d are handed on, %d, %d", len(out), fate, e)
			}
			if _, mask := shared.Told(); mask != 0x7fff || shared.Waits() != 15 || shared.Bytes() != 45 {
				t.Errorf("mask %x, Waits %d, Bytes %d", mask, shared.Waits(), shared.Bytes())
			}
		})
	}
	wait.Wait()
	wantSame(t, shared, at(t, 3, upTo(4, 19)...))
}
