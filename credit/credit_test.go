package credit_test

import (
	"math"
	"sync"
	"testing"

	"longwire/api"
	"longwire/credit"
)

// maxCredit is the highest limit, as the chapter tells it.
const maxCredit = 8192

// spenderOf makes a sending end.
func spenderOf(t *testing.T, limit int) *credit.Spender {
	t.Helper()
	s, e := credit.NewSpender(limit)
	if s == nil || e != api.OK {
		t.Fatalf("NewSpender(%d) is %v, %d", limit, s, e)
	}
	return s
}

// giverOf makes a taking end.
func giverOf(t *testing.T, limit int) *credit.Giver {
	t.Helper()
	g, e := credit.NewGiver(limit)
	if g == nil || e != api.OK {
		t.Fatalf("NewGiver(%d) is %v, %d", limit, g, e)
	}
	return g
}

// want asks for the error of a call.
func want(t *testing.T, call string, got, e api.Errno) {
	t.Helper()
	if got != e {
		t.Errorf("%s is %d, not %d", call, got, e)
	}
}

// wantLeft asks how much may be spent.
func wantLeft(t *testing.T, s *credit.Spender, left int) {
	t.Helper()
	if got := s.Left(); got != left {
		t.Errorf("Left is %d, not %d", got, left)
	}
}

// wantHeld asks how much was taken, and is not used.
func wantHeld(t *testing.T, g *credit.Giver, held int) {
	t.Helper()
	if got := g.Held(); got != held {
		t.Errorf("Held is %d, not %d", got, held)
	}
}

// wantGrant asks for a grant that is due.
func wantGrant(t *testing.T, g *credit.Giver, total uint64) {
	t.Helper()
	if got, due := g.Grant(); got != total || !due {
		t.Errorf("Grant is %d, %t, not %d", got, due, total)
	}
}

// wantNoGrant asks that no grant is due.
func wantNoGrant(t *testing.T, g *credit.Giver) {
	t.Helper()
	if got, due := g.Grant(); got != 0 || due {
		t.Errorf("Grant is %d, %t, where none is due", got, due)
	}
}

// spent is what a sending end knows.
type spent struct {
	limit          int
	spent, granted uint64
}

// wantSpender asks for all that a sending end knows, by what copies of it answer.
func wantSpender(t *testing.T, s *credit.Spender, x spent) {
	t.Helper()
	left := int(x.granted - x.spent)
	wantLeft(t, s, left)
	c := *s
	want(t, "Spend of one more than is left", c.Spend(left+1), api.ErrBusy)
	want(t, "Spend of what is left", c.Spend(left), api.OK)
	wantLeft(t, &c, 0)
	c = *s
	most := x.spent + uint64(x.limit)
	want(t, "Granted of one more than may be", c.Granted(most+1), api.ErrRange)
	wantLeft(t, &c, left)
	want(t, "Granted of as much as may be", c.Granted(most), api.OK)
	wantLeft(t, &c, x.limit)
}

// taken is what a taking end knows.
type taken struct {
	limit                int
	taken, used, granted uint64
}

// wantGiver asks for all that a taking end knows, by what copies of it answer.
func wantGiver(t *testing.T, g *credit.Giver, x taken) {
	t.Helper()
	held, left := int(x.taken-x.used), int(x.granted-x.taken)
	wantHeld(t, g, held)
	c := *g
	want(t, "Take of one more than is granted", c.Take(left+1), api.ErrFull)
	want(t, "Take of all that is granted", c.Take(left), api.OK)
	wantHeld(t, &c, held+left)
	want(t, "Use of one more than is held", c.Use(held+left+1), api.ErrArg)
	want(t, "Use of all that is held", c.Use(held+left), api.OK)
	wantHeld(t, &c, 0)
	wantGrant(t, &c, x.granted+uint64(x.limit))
}

// P9.1 to P9.3: the chapter's example.
func TestExample(t *testing.T) {
	s, g := spenderOf(t, 10), giverOf(t, 10)
	want(t, "Spend(7)", s.Spend(7), api.OK)
	want(t, "Spend(4)", s.Spend(4), api.ErrBusy)
	want(t, "Take(7)", g.Take(7), api.OK)
	want(t, "Use(4)", g.Use(4), api.OK)
	wantNoGrant(t, g)
	want(t, "Use(1)", g.Use(1), api.OK)
	wantGrant(t, g, 15)
	want(t, "Granted(15)", s.Granted(15), api.OK)
	want(t, "Spend(8)", s.Spend(8), api.OK)
	wantLeft(t, s, 0)
	wantHeld(t, g, 2)
	wantNoGrant(t, g)
}

// P9.1: a limit is 1 to MaxCredit; what is made spent, took and used nothing, and is granted the limit.
func TestNew(t *testing.T) {
	for _, limit := range []int{1, 2, 3, 4, 10, 255, 256, 4097, maxCredit - 1, maxCredit} {
		s, g := spenderOf(t, limit), giverOf(t, limit)
		wantNoGrant(t, g)
		wantSpender(t, s, spent{limit, 0, uint64(limit)})
		wantGiver(t, g, taken{limit, 0, 0, uint64(limit)})
	}
}

// P9.1: what is no limit is refused, and nothing is made.
func TestNewRefuses(t *testing.T) {
	for _, limit := range []int{0, -1, -10, math.MinInt, maxCredit + 1, 2 * maxCredit, 1 << 16, 1<<16 + 1, 1<<32 + 1, math.MaxInt} {
		if s, e := credit.NewSpender(limit); s != nil || e != api.ErrArg {
			t.Errorf("NewSpender(%d) is %v, %d", limit, s, e)
		}
		if g, e := credit.NewGiver(limit); g != nil || e != api.ErrArg {
			t.Errorf("NewGiver(%d) is %v, %d", limit, g, e)
		}
	}
}

// P9.2: a sending end that is none, or that NewSpender did not make, refuses all, also what is wrong beside that.
func TestSpenderOfNone(t *testing.T) {
	var none *credit.Spender
	for _, s := range []*credit.Spender{none, {}, new(credit.Spender)} {
		for _, n := range []int{0, 1, -1, maxCredit, maxCredit + 1, math.MinInt, math.MaxInt} {
			want(t, "Spend", s.Spend(n), api.ErrNil)
		}
		for _, n := range []uint64{0, 1, maxCredit, maxCredit + 1, math.MaxUint64} {
			want(t, "Granted", s.Granted(n), api.ErrNil)
		}
		wantLeft(t, s, 0)
		if s != nil && *s != (credit.Spender{}) {
			t.Error("one that NewSpender did not make was changed")
		}
	}
}

// P9.3: a taking end that is none, or that NewGiver did not make, refuses all, also what is wrong beside that.
func TestGiverOfNone(t *testing.T) {
	var none *credit.Giver
	for _, g := range []*credit.Giver{none, {}, new(credit.Giver)} {
		for _, n := range []int{0, 1, -1, maxCredit, maxCredit + 1, math.MinInt, math.MaxInt} {
			want(t, "Take", g.Take(n), api.ErrNil)
			want(t, "Use", g.Use(n), api.ErrNil)
		}
		wantNoGrant(t, g)
		wantHeld(t, g, 0)
		if g != nil && *g != (credit.Giver{}) {
			t.Error("one that NewGiver did not make was changed")
		}
	}
}

// P9.2, P9.3: ends live apart, also where they are used at one time.
func TestEndsLiveApart(t *testing.T) {
	var wait sync.WaitGroup
	for i := range 8 {
		wait.Go(func() {
			s, _ := credit.NewSpender(100 + i)
			g, _ := credit.NewGiver(100 + i)
			for n := range 1000 {
				s.Spend(n % 60)
				g.Take(100 + i - s.Left())
				g.Use(g.Held() / 2)
				if total, due := g.Grant(); due {
					s.Granted(total)
				}
			}
			if left := s.Left(); left < 0 || left > 100+i {
				t.Errorf("Left is %d of %d", left, 100+i)
			}
		})
	}
	one, other := spenderOf(t, 10), spenderOf(t, 10)
	one.Spend(10)
	wantSpender(t, other, spent{10, 0, 10})
	first, second := giverOf(t, 10), giverOf(t, 10)
	first.Take(10)
	first.Use(9)
	wantGrant(t, first, 19)
	wantGiver(t, second, taken{10, 0, 0, 10})
	wait.Wait()
}
