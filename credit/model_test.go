package credit_test

import (
	"math"
	"math/big"
	"math/rand/v2"
	"testing"

	"longwire/api"
	"longwire/credit"
)

// sendModel is a sending end, made from the words of the chapter alone: numbers have no end.
type sendModel struct {
	limit, spent, granted *big.Int
}

// takeModel is a taking end, made likewise.
type takeModel struct {
	limit, taken, used, granted *big.Int
}

func num(n int) *big.Int { return big.NewInt(int64(n)) }

func plus(a, b *big.Int) *big.Int { return new(big.Int).Add(a, b) }

func less(a, b *big.Int) *big.Int { return new(big.Int).Sub(a, b) }

func above(a, b *big.Int) bool { return a.Cmp(b) > 0 }

func sendModelOf(limit int) *sendModel {
	return &sendModel{num(limit), num(0), num(limit)}
}

func takeModelOf(limit int) *takeModel {
	return &takeModel{num(limit), num(0), num(0), num(limit)}
}

func (m *sendModel) spend(n int) api.Errno {
	if n < 0 {
		return api.ErrArg
	}
	then := plus(m.spent, num(n))
	if above(then, m.granted) {
		return api.ErrBusy
	}
	m.spent = then
	return api.OK
}

func (m *sendModel) hear(total uint64) api.Errno {
	n := new(big.Int).SetUint64(total)
	if above(less(n, m.spent), m.limit) {
		return api.ErrRange
	}
	if above(n, m.granted) {
		m.granted = n
	}
	return api.OK
}

func (m *sendModel) left() int { return int(less(m.granted, m.spent).Int64()) }

func (m *takeModel) take(n int) api.Errno {
	if n < 0 {
		return api.ErrArg
	}
	then := plus(m.taken, num(n))
	if above(then, m.granted) {
		return api.ErrFull
	}
	m.taken = then
	return api.OK
}

func (m *takeModel) use(n int) api.Errno {
	if n < 0 {
		return api.ErrArg
	}
	then := plus(m.used, num(n))
	if above(then, m.taken) {
		return api.ErrArg
	}
	m.used = then
	return api.OK
}

func (m *takeModel) grant() (uint64, bool) {
	total := plus(m.used, m.limit)
	half := new(big.Int).Rsh(m.limit, 1)
	if half.Sign() == 0 {
		half = num(1)
	}
	if above(half, less(total, m.granted)) {
		return 0, false
	}
	m.granted = total
	return total.Uint64(), true
}

func (m *takeModel) held() int { return int(less(m.taken, m.used).Int64()) }

// sendStep does one call of a sending end and of its model; kind 0 spends so much, another one hears of so much beside what was spent and the limit.
func sendStep(t *testing.T, s *credit.Spender, m *sendModel, kind, n int) bool {
	t.Helper()
	was := *s
	var got, e api.Errno
	if kind == 0 {
		got, e = s.Spend(n), m.spend(n)
	} else {
		total := m.spent.Uint64() + m.limit.Uint64() + uint64(int64(n))
		got, e = s.Granted(total), m.hear(total)
	}
	if got != e || s.Left() != m.left() {
		t.Errorf("call %d of %d is %d, not %d; Left is %d, not %d", kind, n, got, e, s.Left(), m.left())
		return false
	}
	if e != api.OK && *s != was {
		t.Errorf("call %d of %d is refused, and changes the end", kind, n)
		return false
	}
	return true
}

// takeStep does one call of a taking end and of its model: kind 0 takes so much, 1 uses so much, another one asks for a grant.
func takeStep(t *testing.T, g *credit.Giver, m *takeModel, kind, n int) bool {
	t.Helper()
	was := *g
	var got, e api.Errno
	var total, wanted uint64
	due, asked := true, true
	switch kind {
	case 0:
		got, e = g.Take(n), m.take(n)
	case 1:
		got, e = g.Use(n), m.use(n)
	default:
		total, due = g.Grant()
		wanted, asked = m.grant()
	}
	if got != e || total != wanted || due != asked || g.Held() != m.held() {
		t.Errorf("call %d of %d is %d, %d, %t, not %d, %d, %t; Held is %d, not %d", kind, n, got, total, due, e, wanted, asked, g.Held(), m.held())
		return false
	}
	if (e != api.OK || !due) && *g != was {
		t.Errorf("call %d of %d is refused, and changes the end", kind, n)
		return false
	}
	return true
}

// P9.1 to P9.3, P9.6: every row of five calls, of small limits, is as the model's.
func TestEveryRowOfSpender(t *testing.T) {
	type call struct{ kind, n int }
	calls := []call{{0, -1}, {0, 0}, {0, 1}, {0, 2}, {0, 3}, {1, 1}, {1, 0}, {1, -1}, {1, -2}, {1, -4}}
	var rows func(s credit.Spender, m sendModel, deep int) bool
	rows = func(s credit.Spender, m sendModel, deep int) bool {
		for _, c := range calls {
			s, m := s, m
			if !sendStep(t, &s, &m, c.kind, c.n) || deep > 1 && !rows(s, m, deep-1) {
				t.Logf("behind %d calls: %d of %d", deep-1, c.kind, c.n)
				return false
			}
		}
		return true
	}
	for limit := 1; limit <= 4; limit++ {
		rows(*spenderOf(t, limit), *sendModelOf(limit), 5)
	}
}

// P9.1 to P9.3, P9.6: every row of five calls, of small limits, is as the model's.
func TestEveryRowOfGiver(t *testing.T) {
	type call struct{ kind, n int }
	calls := []call{{0, -1}, {0, 0}, {0, 1}, {0, 2}, {0, 3}, {1, -1}, {1, 0}, {1, 1}, {1, 2}, {1, 3}, {2, 0}}
	var rows func(g credit.Giver, m takeModel, deep int) bool
	rows = func(g credit.Giver, m takeModel, deep int) bool {
		for _, c := range calls {
			g, m := g, m
			if !takeStep(t, &g, &m, c.kind, c.n) || deep > 1 && !rows(g, m, deep-1) {
				t.Logf("behind %d calls: %d of %d", deep-1, c.kind, c.n)
				return false
			}
		}
		return true
	}
	for limit := 1; limit <= 4; limit++ {
		rows(*giverOf(t, limit), *takeModelOf(limit), 5)
	}
}

// anyLimit picks a limit, small ones and the highest ones more often.
func anyLimit(r *rand.Rand) int {
	return []int{1, 2, 3, 1 + r.IntN(20), 1 + r.IntN(maxCredit), maxCredit - r.IntN(2)}[r.IntN(6)]
}

// anyAmount picks an amount around what just may be, or any.
func anyAmount(r *rand.Rand, just, limit int) int {
	switch r.IntN(8) {
	case 0:
		return just
	case 1:
		return just + 1
	case 2:
		return just - 1
	case 3:
		return []int{-1, 0, 1, limit, limit + 1, math.MinInt, math.MaxInt, math.MaxInt32 + 1}[r.IntN(8)]
	case 4:
		return r.IntN(2*limit+2) - 1
	}
	return r.IntN(just + 1)
}

// P9.1 to P9.3, P9.6: long rows of calls, of all limits, are as the model's.
func TestRowsOfSpender(t *testing.T) {
	r := rand.New(rand.NewPCG(9, 1))
	for range 400 {
		limit := anyLimit(r)
		s, m := spenderOf(t, limit), sendModelOf(limit)
		for range 300 {
			kind := r.IntN(2)
			n := anyAmount(r, m.left(), limit)
			if kind == 1 {
				n = []int{0, 1, -1, -limit, -limit - 1, -r.IntN(limit + 1), r.IntN(limit + 1), math.MinInt, math.MaxInt}[r.IntN(9)]
			}
			if !sendStep(t, s, m, kind, n) {
				t.Fatalf("limit %d", limit)
			}
		}
		wantSpender(t, s, spent{limit, m.spent.Uint64(), m.granted.Uint64()})
	}
}

// P9.1 to P9.3, P9.6: long rows of calls, of all limits, are as the model's.
func TestRowsOfGiver(t *testing.T) {
	r := rand.New(rand.NewPCG(9, 2))
	for range 400 {
		limit := anyLimit(r)
		g, m := giverOf(t, limit), takeModelOf(limit)
		for range 300 {
			kind, just := r.IntN(3), m.held()
			if kind == 0 {
				just = int(less(m.granted, m.taken).Int64())
			}
			if !takeStep(t, g, m, kind, anyAmount(r, just, limit)) {
				t.Fatalf("limit %d", limit)
			}
		}
		wantGiver(t, g, taken{limit, m.taken.Uint64(), m.used.Uint64(), m.granted.Uint64()})
	}
}
