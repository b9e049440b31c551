package credit_test

import (
	"math/rand/v2"
	"testing"

	"longwire/api"
	"longwire/credit"
)

// channel is both ends of a channel, what is on its way from the one to the other, in order, and the grants on their way back, in any order.
type channel struct {
	t           *testing.T
	r           *rand.Rand
	limit       int
	s           *credit.Spender
	g           *credit.Giver
	sent        []int
	grants      []uint64
	last        uint64
	spent, used int
}

func channelOf(t *testing.T, r *rand.Rand, limit int) *channel {
	t.Helper()
	return &channel{t: t, r: r, limit: limit, s: spenderOf(t, limit), g: giverOf(t, limit), last: uint64(limit)}
}

// bounded asks what holds at all times: what was spent and is not used is never above the limit.
func (c *channel) bounded() {
	c.t.Helper()
	ahead := c.spent - c.used
	if ahead < 0 || ahead > c.limit || ahead+c.s.Left() > c.limit || c.s.Left() < 0 {
		c.t.Fatalf("%d is spent, %d used, %d left, of the limit %d", c.spent, c.used, c.s.Left(), c.limit)
	}
	if held := c.g.Held(); held < 0 || held > ahead {
		c.t.Fatalf("%d is held, of %d", held, ahead)
	}
}

// spend spends all that is left, or less, and now and then asks for one more.
func (c *channel) spend() {
	left := c.s.Left()
	if c.r.IntN(4) == 0 {
		want(c.t, "Spend of one more than is left", c.s.Spend(left+1), api.ErrBusy)
	}
	n := c.r.IntN(left + 1)
	if c.r.IntN(3) == 0 {
		n = left
	}
	if e := c.s.Spend(n); e != api.OK {
		c.t.Fatalf("Spend of %d of %d left is %d", n, left, e)
	}
	c.spent += n
	c.sent = append(c.sent, n)
}

// arrive takes the oldest that is on its way.
func (c *channel) arrive() {
	if len(c.sent) == 0 {
		return
	}
	if e := c.g.Take(c.sent[0]); e != api.OK {
		c.t.Fatalf("Take of %d that was spent is %d", c.sent[0], e)
	}
	c.sent = c.sent[1:]
}

// use uses some of what is held, and asks for a grant.
func (c *channel) use() {
	held := c.g.Held()
	n := c.r.IntN(held + 1)
	if c.r.IntN(3) == 0 {
		n = held
	}
	if e := c.g.Use(n); e != api.OK {
		c.t.Fatalf("Use of %d of %d held is %d", n, held, e)
	}
	c.used += n
	c.grant()
}

// grant asks for a grant, which is then on its way.
func (c *channel) grant() {
	total, due := c.g.Grant()
	if !due {
		return
	}
	if total <= c.last {
		c.t.Fatalf("a grant of %d behind one of %d", total, c.last)
	}
	c.last = total
	c.grants = append(c.grants, total)
}

// tell tells any grant that is on its way, which now and then comes again, or is lost.
func (c *channel) tell() {
	if len(c.grants) == 0 {
		return
	}
	i := c.r.IntN(len(c.grants))
	if c.r.IntN(4) > 0 {
		left := c.s.Left()
		if e := c.s.Granted(c.grants[i]); e != api.OK || c.s.Left() < left {
			c.t.Fatalf("Granted of a grant is %d, and leaves %d of %d", e, c.s.Left(), left)
		}
	}
	if c.r.IntN(3) > 0 {
		c.grants = append(c.grants[:i], c.grants[i+1:]...)
	}
}

// drain takes and uses all, and tells the last grant, whether it was lost or not.
func (c *channel) drain() {
	for len(c.sent) > 0 {
		c.arrive()
	}
	if e := c.g.Use(c.g.Held()); e != api.OK {
		c.t.Fatalf("Use of all that is held is %d", e)
	}
	c.used = c.spent
	c.grant()
	if e := c.s.Granted(c.last); e != api.OK {
		c.t.Fatalf("Granted of the last grant is %d", e)
	}
}

// goesOn asks that at least half the limit can be spent.
func (c *channel) goesOn() {
	c.t.Helper()
	if left := c.s.Left(); 2*left < c.limit || left < 1 || left > c.limit {
		c.t.Fatalf("%d is left of %d, where all is used, and granted", left, c.limit)
	}
}

// P9.4, P9.5: over a way that delays, doubles, mixes and loses grants it is bounded, nothing that was spent is refused, and it goes on.
func TestChannel(t *testing.T) {
	r := rand.New(rand.NewPCG(9, 3))
	for range 300 {
		c := channelOf(t, r, anyLimit(r))
		for range 10 {
			for range 60 {
				[]func(){c.spend, c.spend, c.arrive, c.use, c.tell, c.tell}[r.IntN(6)]()
				c.bounded()
			}
			c.drain()
			c.bounded()
			c.goesOn()
		}
	}
}

// P9.5: grants that are due and told let it go on forever, however little is used at a time.
func TestChannelGoesOn(t *testing.T) {
	for _, limit := range []int{1, 2, 3, 4, 5, 7, 10, 255, maxCredit - 1, maxCredit} {
		for _, n := range []int{1, 2, limit/2 - 1, limit / 2, limit/2 + 1, limit} {
			if n < 1 || n > (limit+1)/2 && n != limit {
				continue
			}
			s, g := spenderOf(t, limit), giverOf(t, limit)
			for range 50 {
				n := min(n, s.Left())
				if s.Spend(n) != api.OK || g.Take(n) != api.OK || g.Use(n) != api.OK {
					t.Fatalf("%d of the limit %d are refused", n, limit)
				}
				if total, due := g.Grant(); due {
					want(t, "Granted", s.Granted(total), api.OK)
					wantLeft(t, s, limit)
				}
				if left := s.Left(); 2*left < limit || left < 1 {
					t.Fatalf("%d is left of %d behind uses of %d", left, limit, n)
				}
			}
		}
	}
}

// P9.4: where grants never come what was granted at first can be spent, and no more.
func TestChannelWithoutGrants(t *testing.T) {
	for _, limit := range []int{1, 2, 3, 10, maxCredit} {
		s, g := spenderOf(t, limit), giverOf(t, limit)
		for range limit {
			want(t, "Spend", s.Spend(1), api.OK)
			want(t, "Take", g.Take(1), api.OK)
			want(t, "Use", g.Use(1), api.OK)
			g.Grant()
		}
		want(t, "Spend without a grant", s.Spend(1), api.ErrBusy)
		wantSpender(t, s, spent{limit, uint64(limit), uint64(limit)})
	}
}

// P9.4: a sending end believes no grant that would let it be ahead by more than the limit, whoever told it.
func TestChannelOfWrongGrants(t *testing.T) {
	r := rand.New(rand.NewPCG(9, 4))
	for range 300 {
		limit := anyLimit(r)
		s, m := spenderOf(t, limit), sendModelOf(limit)
		for range 100 {
			sendStep(t, s, m, 0, r.IntN(s.Left()+1))
			was := s.Left()
			e := s.Granted(m.spent.Uint64() + uint64(r.IntN(3*limit+1)))
			if left := s.Left(); left > limit || left < was || e != api.OK && left != was {
				t.Fatalf("Granted is %d, and leaves %d of %d", e, left, limit)
			}
			m.granted = plus(m.spent, num(s.Left()))
		}
	}
}
