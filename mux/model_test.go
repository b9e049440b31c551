package mux_test

import (
	"math"
	"math/rand/v2"
	"slices"
	"strings"
	"testing"

	"longwire/api"
	"longwire/arq"
	"longwire/mux"
)

// waiting is a payload that waits in a model's row: a grant stands at its channel's place, a part behind all of these.
type waiting struct {
	place   int
	payload string
}

// behind is the place of parts.
const behind = 5

// model is a mux, made from the words of the chapters alone, on an end of its own. All is counted from the beginning.
type model struct {
	side, limit        int
	e                  *arq.End
	spent, granted     lefts // of the side's own channels; what the other side granted it
	taken, used, given lefts // of the other side's channels
	row                []waiting
	from               int // the channel of the message that is under way; -1: none
	body               string
	broken             bool
}

func modelOf(side, limit int, e *arq.End) *model {
	m := &model{side: side, limit: limit, e: e, from: -1}
	for channel := range m.granted {
		m.granted[channel], m.given[channel] = limit, limit
	}
	return m
}

// owns tells whether a channel is a side's to send on.
func owns(side, channel int) bool {
	if side == mux.Up {
		return channel == 0 || channel == 1
	}
	return channel == 2 || channel == 3 || channel == 4
}

func (m *model) send(x mux.Message) api.Errno {
	parts := 0
	for _, w := range m.row {
		if w.place == behind {
			parts++
		}
	}
	switch {
	case m.broken:
		return api.ErrState
	case !owns(m.side, x.Channel):
		return api.ErrArg
	case len(x.Body) > 4096:
		return api.ErrLong
	case m.spent[x.Channel]+len(x.Body)+1 > m.granted[x.Channel], parts+len(partsOf(x)) > 64:
		return api.ErrBusy
	}
	m.spent[x.Channel] += len(x.Body) + 1
	for _, p := range partsOf(x) {
		m.row = append(m.row, waiting{behind, p})
	}
	return api.OK
}

func (m *model) frames(now int64) ([][]byte, api.Errno) {
	if m.broken {
		return nil, api.ErrState
	}
	err := api.OK
	for len(m.row) > 0 {
		err = m.e.Send([]byte(m.row[0].payload), now)
		if err != api.OK {
			break
		}
		m.row = m.row[1:]
	}
	if err != api.ErrFull {
		err = api.OK
	}
	return m.e.Frames(now), err
}

func (m *model) take(b []byte) ([]mux.Message, api.Errno) {
	if m.broken {
		return nil, api.ErrState
	}
	payloads, err := m.e.Take(b)
	var all []mux.Message
	for _, p := range payloads {
		if !m.hear(string(p), &all) {
			m.broken = true
			return all, api.ErrForm
		}
	}
	return all, err
}

// hear hears a payload, and tells whether it may be.
func (m *model) hear(p string, all *[]mux.Message) bool {
	if strings.HasPrefix(p, "\x05") {
		if len(p) != 10 || !owns(m.side, int(p[1])) {
			return false
		}
		channel, total := int(p[1]), uint64(0)
		for _, c := range []byte(p[2:]) {
			total = total<<8 + uint64(c)
		}
		if total > uint64(m.spent[channel]+m.limit) {
			return false
		}
		m.granted[channel] = max(m.granted[channel], int(total))
		return true
	}
	if len(p) < 2 || p[1] > 1 || !owns(1-m.side, int(p[0])) || m.from >= 0 && m.from != int(p[0]) || len(m.body)+len(p)-2 > 4096 {
		return false
	}
	m.from, m.body = int(p[0]), m.body+p[2:]
	if p[1] == 0 {
		return true
	}
	if m.taken[m.from]+len(m.body)+1 > m.given[m.from] {
		return false
	}
	m.taken[m.from] += len(m.body) + 1
	*all = append(*all, text(m.from, m.body))
	m.from, m.body = -1, ""
	return true
}

func (m *model) use(channel, n int) api.Errno {
	if !owns(1-m.side, channel) || n < 0 || n > m.taken[channel]-m.used[channel] {
		return api.ErrArg
	}
	m.used[channel] += n
	total := m.used[channel] + m.limit
	if total-m.given[channel] < max(m.limit/2, 1) {
		return api.OK
	}
	m.given[channel] = total
	m.row = slices.DeleteFunc(m.row, func(w waiting) bool { return w.place == channel })
	m.row = append(m.row, waiting{channel, grant(channel, uint64(total))})
	slices.SortStableFunc(m.row, func(a, b waiting) int { return a.place - b.place })
	return api.OK
}

// counts tells what the model's mux tells of itself.
func (m *model) counts() counts {
	window, _ := m.e.Waits()
	c := counts{idle: len(m.row) == 0 && window == 0, broken: m.broken, waits: len(m.row)}
	for channel := range c.left {
		if owns(m.side, channel) {
			c.left[channel] = m.granted[channel] - m.spent[channel]
		} else {
			c.held[channel] = m.taken[channel] - m.used[channel]
		}
	}
	return c
}

// pair is a mux, its very end, its model, and what is on its way to it, and was.
type pair struct {
	m        *mux.Mux
	e        *arq.End
	like     *model
	way, old [][]byte
}

// rows is two pairs, and rows of calls of both, by chance.
type rows struct {
	t     *testing.T
	r     *rand.Rand
	sides [2]*pair
	now   int64
	whole int // how many messages came out
}

func rowsOf(t *testing.T, seed uint64) *rows {
	t.Helper()
	g := &rows{t: t, r: rand.New(rand.NewPCG(seed, 10))}
	limit := []int{1, 2, 3, 1 + g.r.IntN(600), 1 + g.r.IntN(8192), 8192}[g.r.IntN(6)]
	numbers := []uint32{1 + g.r.Uint32N(40), 100000, 100000}[g.r.IntN(3)]
	for side, c := range []arq.Config{config(), across(config())} {
		e := endOf(t, c, numbers)
		m, err := mux.New(side, limit, e)
		want(t, "New", err, api.OK)
		g.sides[side] = &pair{m: m, e: e, like: modelOf(side, limit, endOf(t, c, numbers))}
	}
	return g
}

// long tells how many bytes a body has: often around what may be.
func (g *rows) long(left int) int {
	switch g.r.IntN(8) {
	case 0:
		return []int{0, 1, 253, 254, 255, 508, 509, 4095, 4096, 4097, 5000}[g.r.IntN(11)]
	case 1:
		return max(0, left-1)
	case 2:
		return left
	case 3:
		return g.r.IntN(4100)
	}
	return g.r.IntN(max(1, left/(1+g.r.IntN(8))))
}

// channel tells a channel: mostly one that a side owns.
func (g *rows) channel(side int) int {
	if g.r.IntN(20) == 0 {
		return []int{-1, 0, 1, 2, 3, 4, 5, 6, 256, math.MinInt, math.MaxInt}[g.r.IntN(11)]
	}
	if side == mux.Up {
		return g.r.IntN(2)
	}
	return 2 + g.r.IntN(3)
}

func (g *rows) send(p *pair) {
	g.t.Helper()
	channel := g.channel(p.like.side)
	x := mux.Message{Channel: channel, Body: make([]byte, g.long(p.m.Left(channel)))}
	for k := range x.Body {
		x.Body[k] = byte(g.r.Uint32())
	}
	want(g.t, "Send", p.m.Send(x), p.like.send(x))
}

// frames lays what a side sends on its way to the other one: some is lost, some doubled.
func (g *rows) frames(p *pair) {
	g.t.Helper()
	now := g.now
	if g.r.IntN(50) == 0 {
		now = []int64{-1, latest + 1, math.MinInt64, math.MaxInt64}[g.r.IntN(4)]
	}
	l, err := p.m.Frames(now)
	same, wanted := p.like.frames(now)
	want(g.t, "Frames", err, wanted)
	wantGrams(g.t, l, same)
	to := g.sides[1-p.like.side]
	for _, d := range l {
		for range []int{0, 1, 1, 1, 2}[g.r.IntN(5)] {
			to.way = append(to.way, d)
		}
		to.old = append(to.old, d)
	}
}

// come brings a side one of the datagrams on their way, or an old one, or one that is not its own.
func (g *rows) come(p *pair) {
	g.t.Helper()
	var d []byte
	switch from := g.r.IntN(20); {
	case from == 0 && len(p.old) > 0:
		d = p.old[g.r.IntN(len(p.old))]
	case from == 1 && len(p.old) > 0:
		d = slices.Clone(p.old[g.r.IntN(len(p.old))])
		d[g.r.IntN(len(d))] ^= 1 << g.r.IntN(8)
	case from == 2:
		d = make([]byte, g.r.IntN(700))
	case len(p.way) > 0:
		k := g.r.IntN(min(len(p.way), 5))
		d = p.way[k]
		p.way = slices.Delete(p.way, k, k+1)
	default:
		return
	}
	got, err := p.m.Take(d)
	wanted, like := p.like.take(d)
	want(g.t, "Take", err, like)
	wantMessages(g.t, got, wanted...)
	g.whole += len(got)
}

func (g *rows) use(p *pair) {
	g.t.Helper()
	channel := g.channel(1 - p.like.side)
	held := p.m.Held(channel)
	n := []int{held, held, held + 1, g.r.IntN(held + 1), g.r.IntN(held + 1), 0, -1}[g.r.IntN(7)]
	want(g.t, "Use", p.m.Use(channel, n), p.like.use(channel, n))
}

// others sends a payload by the very end, as others do: one that may break the stream, or not.
func (g *rows) others(p *pair) {
	g.t.Helper()
	channel := g.channel(p.like.side)
	b := part(channel, byte(g.r.IntN(2)), long(g.r.IntN(30)))
	switch g.r.IntN(4) {
	case 0:
		b = grant(g.channel(1-p.like.side), uint64(g.r.IntN(3*p.like.limit)))
	case 1:
		b = strings.Repeat(string([]byte{byte(g.r.IntN(7)), byte(g.r.IntN(3))}), g.r.IntN(6))
	}
	want(g.t, "the end's Send", p.e.Send([]byte(b), g.now), p.like.e.Send([]byte(b), g.now))
}

// step does one call, by chance, of one side, and holds all that it tells against what its model tells.
func (g *rows) step(rude bool) {
	g.t.Helper()
	p := g.sides[g.r.IntN(2)]
	switch k := g.r.IntN(20); {
	case k < 4:
		g.send(p)
	case k < 9:
		g.now += g.r.Int64N(4)
		g.frames(p)
	case k < 16:
		g.come(p)
	case k < 19 || !rude:
		g.use(p)
	case g.r.IntN(10) == 0:
		g.others(p)
	}
	wantCounts(g.t, p.m, p.like.counts())
}

// P10.1 to P10.5: whatever is called, two muxes tell what their models do, over a way that delays, doubles, mixes and loses, and as nobody else sends, no stream breaks.
func TestLikeTheModel(t *testing.T) {
	whole := 0
	for seed := range uint64(150) {
		g := rowsOf(t, seed)
		for range 1500 {
			g.step(false)
		}
		if g.sides[0].m.Broken() || g.sides[1].m.Broken() {
			t.Fatalf("seed %d: a stream is broken", seed)
		}
		whole += g.whole
	}
	if whole < 5000 {
		t.Errorf("only %d messages came out", whole)
	}
}

// P10.1 to P10.3: likewise, where others send by the ends, too, so that streams break.
func TestLikeTheModelWhereStreamsBreak(t *testing.T) {
	broken, whole := 0, 0
	for seed := range uint64(400) {
		g := rowsOf(t, 1000+seed)
		for range 400 {
			g.step(true)
		}
		for _, p := range g.sides {
			if p.m.Broken() {
				broken++
			}
		}
		whole += g.whole
	}
	if broken < 100 || whole < 1000 {
		t.Errorf("only %d streams broke, %d messages came out", broken, whole)
	}
}
