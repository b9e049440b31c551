package credit

import "longwire/api"

// Spender is the sending end of a channel.
type Spender struct {
	limit
	spent, granted uint64
}

// NewSpender makes a sending end that spent nothing.
func NewSpender(limit int) (*Spender, api.Errno) {
	l, e := newLimit(limit)
	if e != api.OK {
		return nil, e
	}
	return &Spender{limit: l, granted: l.above(0)}, api.OK
}

// isNone tells whether it is no sending end.
func (s *Spender) isNone() bool {
	return s == nil || s.limit.isNone()
}

// Spend spends so much of what was granted.
func (s *Spender) Spend(n int) api.Errno {
	switch {
	case s.isNone():
		return api.ErrNil
	case n < 0:
		return api.ErrArg
	case n > s.Left():
		return api.ErrBusy
	}
	s.spent += uint64(n)
	return api.OK
}

// Granted hears how much is granted in all. Grants come late and doubled: what was granted is never taken back.
func (s *Spender) Granted(total uint64) api.Errno {
	switch {
	case s.isNone():
		return api.ErrNil
	case total > s.above(s.spent):
		return api.ErrRange
	}
	s.granted = max(s.granted, total)
	return api.OK
}

// Left tells how much may be spent.
func (s *Spender) Left() int {
	if s.isNone() {
		return 0
	}
	return int(s.granted - s.spent)
}
