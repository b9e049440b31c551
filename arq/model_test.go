package arq_test

import (
	"math/rand/v2"
	"testing"

	"longwire/api"
	"longwire/arq"
	"longwire/seal"
)

// sending is a payload that a model keeps till it is told as had.
type sending struct {
	number  uint32
	payload string
	wait    int64
	due     int64
}

// model is an end of config, made from the words of the chapters alone: what is sent stands in a list, by rising numbers, and all that ever was taken in a map.
type model struct {
	next  uint32
	kept  []sending
	floor uint32
	taken map[uint32]string
	owes  bool
}

func (m *model) send(payload string, now int64) api.Errno {
	switch {
	case now < 0 || now > 1<<40:
		return api.ErrArg
	case len(payload) > 256:
		return api.ErrLong
	case len(m.kept) == 16:
		return api.ErrBusy
	case m.next == config().Limit:
		return api.ErrFull
	}
	m.kept = append(m.kept, sending{m.next, payload, config().First, now})
	m.next++
	return api.OK
}

// mask tells the mask of the floor.
func (m *model) mask() uint32 {
	mask := uint32(0)
	for k := range uint32(32) {
		if _, is := m.taken[m.floor+1+k]; is {
			mask |= 1 << k
		}
	}
	return mask
}

func (m *model) frames(now int64) []gram {
	var l []gram
	for k := range m.kept {
		s := &m.kept[k]
		if s.due <= now {
			s.due, s.wait = now+s.wait, min(2*s.wait, config().Most)
			l = append(l, dataOf(s.number, m.floor, m.mask(), s.payload))
		}
	}
	if len(l) == 0 && m.owes {
		l = append(l, ackOf(m.floor, m.mask()))
	}
	m.owes = false
	return l
}

// may tells whether a frame may be.
func (g gram) may() bool {
	switch g.kind {
	case hello, welcome, refuse:
		return len(g.payload) <= 256 && g.number == 0 && g.ack == 0 && g.mask == 0
	case data:
		return len(g.payload) <= 256 && g.number < 1<<31
	}
	return g.kind == ack && g.number == 0 && g.payload == ""
}

// take takes a datagram with the tag by a key.
func (m *model) take(g gram, key seal.Key) (out []string, err api.Errno) {
	switch {
	case !g.may():
		return nil, api.ErrForm
	case g.kind != data && g.kind != ack:
		return nil, api.ErrState
	case g.session != config().Session || g.epoch != config().Epoch:
		return nil, api.ErrStale
	case key != config().In:
		return nil, api.ErrCheck
	}
	m.hear(g.ack, g.mask)
	if g.kind == ack {
		return nil, api.OK
	}
	m.owes = true
	if _, is := m.taken[g.number]; !is && g.number <= m.floor+15 {
		m.taken[g.number] = g.payload
	}
	for {
		p, is := m.taken[m.floor]
		if !is {
			return out, api.OK
		}
		out = append(out, p)
		m.floor++
	}
}

// hear drops what an ack and a mask tell.
func (m *model) hear(told, mask uint32) {
	if told > m.next {
		return
	}
	var left []sending
	for _, s := range m.kept {
		had := s.number < told || s.number > told && s.number <= told+32 && mask>>(s.number-told-1)&1 == 1
		if !had {
			left = append(left, s)
		}
	}
	m.kept = left
}

func (m *model) copy() *model {
	c := *m
	c.kept = append([]sending(nil), m.kept...)
	c.taken = map[uint32]string{}
	for n, p := range m.taken {
		c.taken[n] = p
	}
	return &c
}

// counts tells what the model's end tells of itself.
func (m *model) counts() counts {
	c := counts{owes: m.owes, window: len(m.kept), left: config().Limit - m.next, any: len(m.kept) > 0}
	for k, s := range m.kept {
		if k == 0 || s.due < c.wakes {
			c.wakes = s.due
		}
	}
	for n := range m.taken {
		if n >= m.floor {
			c.intake++
		}
	}
	return c
}

// pair is an end, and its model.
type pair struct {
	e   *arq.End
	m   *model
	now int64
}

// chance tells a datagram, by chance: mostly one that the model's end would take, of a number near its floor, with an ack near its next number.
func (m *model) chance(r *rand.Rand) (gram, seal.Key) {
	near := func(n uint32, below, above int) uint32 {
		return uint32(max(0, int(n)-r.IntN(below)+r.IntN(above)))
	}
	g := dataOf(near(m.floor, 5, 25), near(m.next, 20, 3), r.Uint32()&r.Uint32(), string(make([]byte, r.IntN(258))))
	if r.IntN(3) == 0 {
		g = ackOf(g.ack, g.mask)
	}
	switch r.IntN(30) {
	case 0:
		g.kind = byte(r.IntN(8))
	case 1:
		g = gram{kind: []byte{hello, welcome, refuse}[r.IntN(3)], session: g.session, epoch: g.epoch, payload: g.payload}
	case 2:
		g.session ^= 1 << r.IntN(32)
	case 3:
		g.epoch ^= 1 << r.IntN(32)
	case 4:
		return g, config().Out
	case 5:
		g.number = r.Uint32()
	case 6:
		g.ack = r.Uint32()
	}
	return g, config().In
}

// step does one thing, by chance, to both, and holds what they tell against each other.
func (p *pair) step(t *testing.T, r *rand.Rand) {
	t.Helper()
	switch r.IntN(8) {
	case 0, 1:
		payload := make([]byte, r.IntN(258))
		for k := range payload {
			payload[k] = byte(r.Uint32())
		}
		at := p.now - 2 + r.Int64N(40)
		wantSend(t, p.e, string(payload), at, p.m.send(string(payload), at))
	case 2, 3:
		p.now += r.Int64N(25)
		wantFrames(t, p.e, p.now, p.m.frames(p.now)...)
	default:
		g, key := p.m.chance(r)
		out, err := p.m.take(g, key)
		wantTake(t, p.e, g.by(key), err, out...)
	}
	wantCounts(t, p.e, p.m.counts())
}

// P8.1 to P8.5: whatever is called, an end tells what its model does; so does a copy of it, made on the way, that goes on by itself.
func TestLikeTheModel(t *testing.T) {
	for seed := range uint64(100) {
		r := rand.New(rand.NewPCG(seed, 88))
		all := []*pair{{endOf(t, config()), &model{taken: map[uint32]string{}}, 0}}
		for range 400 {
			p := all[r.IntN(len(all))]
			p.step(t, r)
			if r.IntN(150) == 0 {
				all = append(all, &pair{p.e.Copy(), p.m.copy(), p.now})
			}
		}
		for _, p := range all {
			wantFrames(t, p.e, 1<<40, p.m.frames(1<<40)...)
			wantFrames(t, p.e, 0, p.m.frames(0)...)
		}
	}
}
