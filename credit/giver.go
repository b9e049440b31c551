package credit

import "longwire/api"

// Giver is the taking end of a channel.
type Giver struct {
	limit
	taken, used, granted uint64
}

// NewGiver makes a taking end that took and used nothing.
func NewGiver(limit int) (*Giver, api.Errno) {
	l, e := newLimit(limit)
	if e != api.OK {
		return nil, e
	}
	return &Giver{limit: l, granted: l.above(0)}, api.OK
}

// isNone tells whether it is no taking end.
func (g *Giver) isNone() bool {
	return g == nil || g.limit.isNone()
}

// Take takes so much of what was granted.
func (g *Giver) Take(n int) api.Errno {
	switch {
	case g.isNone():
		return api.ErrNil
	case n < 0:
		return api.ErrArg
	case uint64(n) > g.granted-g.taken:
		return api.ErrFull
	}
	g.taken += uint64(n)
	return api.OK
}

// Use uses so much of what was taken.
func (g *Giver) Use(n int) api.Errno {
	switch {
	case g.isNone():
		return api.ErrNil
	case n < 0 || n > g.Held():
		return api.ErrArg
	}
	g.used += uint64(n)
	return api.OK
}

// Grant tells how much is granted in all, if a grant is due. What was granted never sinks, as what was used does not.
func (g *Giver) Grant() (uint64, bool) {
	if g.isNone() {
		return 0, false
	}
	total := g.above(g.used)
	if total-g.granted < g.step() {
		return 0, false
	}
	g.granted = total
	return total, true
}

// Held tells how much was taken, and is not used.
func (g *Giver) Held() int {
	if g.isNone() {
		return 0
	}
	return int(g.taken - g.used)
}
