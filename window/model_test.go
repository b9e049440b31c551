package window_test

import (
	"math/rand/v2"
	"testing"

	"longwire/api"
	"longwire/window"
)

// modelItem is one payload that a model keeps.
type modelItem struct {
	number  uint64
	payload string
	tries   int
	due     int64
}

// model is a window, made from the words of the chapter alone: what is kept stands in a list, by rising numbers, which do not go round.
type model struct {
	limit, next uint64
	first, most int64
	kept        []modelItem
}

func (m *model) put(payload []byte, now int64) (uint32, api.Errno) {
	switch {
	case now < 0 || now > 1<<40:
		return 0, api.ErrArg
	case len(payload) > 256:
		return 0, api.ErrLong
	case len(m.kept) == 16:
		return 0, api.ErrBusy
	case m.next == m.limit:
		return 0, api.ErrFull
	}
	m.kept = append(m.kept, modelItem{m.next, string(payload), 0, now})
	m.next++
	return uint32(m.next - 1), api.OK
}

// wait tells first, doubled n - 1 times, but at most most, for waits that a float tells just.
func (m *model) wait(n int) int64 {
	wait := float64(m.first)
	for range n - 1 {
		wait *= 2
	}
	return int64(min(wait, float64(m.most)))
}

func (m *model) due(now int64) []window.Item {
	if now < 0 {
		now = 0
	}
	if now > 1<<40 {
		now = 1 << 40
	}
	var l []window.Item
	for i := range m.kept {
		k := &m.kept[i]
		if k.due <= now {
			k.tries++
			k.due = now + m.wait(k.tries)
			l = append(l, window.Item{Number: uint32(k.number), Payload: []byte(k.payload), Tries: k.tries})
		}
	}
	return l
}

// tells tells whether an ack and a mask tell n as had.
func (m *model) tells(ack, mask uint32, n uint64) bool {
	a := uint64(ack)
	if a > m.next {
		return false
	}
	return n < a || n > a && n <= a+32 && mask>>(n-a-1)&1 == 1
}

func (m *model) ack(ack, mask uint32) int {
	var left []modelItem
	for _, k := range m.kept {
		if !m.tells(ack, mask, k.number) {
			left = append(left, k)
		}
	}
	dropped := len(m.kept) - len(left)
	m.kept = left
	return dropped
}

func (m *model) copy() *model {
	c := *m
	c.kept = append([]modelItem(nil), m.kept...)
	return &c
}

// counts tells what the model's window tells of itself.
func (m *model) counts() counts {
	c := counts{length: len(m.kept), next: uint32(m.next), left: uint32(m.limit - m.next)}
	for i, k := range m.kept {
		c.bytes += len(k.payload)
		if i == 0 || k.due < c.wakes {
			c.wakes = k.due
		}
		c.any = true
	}
	return c
}

// pair is a window, and its model.
type pair struct {
	w   *window.Window
	m   *model
	now int64
}

func pairOf(t *testing.T, limit uint32, first, most int64) *pair {
	t.Helper()
	return &pair{windowOf(t, limit, first, most), &model{limit: uint64(limit), first: first, most: most}, 0}
}

// step does one thing, by chance, to both, and holds what they tell against each other.
func (p *pair) step(t *testing.T, r *rand.Rand) {
	t.Helper()
	switch r.IntN(8) {
	case 0, 1, 2, 3:
		payload := make([]byte, r.IntN(258))
		for i := range payload {
			payload[i] = byte(r.Uint32())
		}
		at := p.now - 2 + r.Int64N(40)
		n, e := p.w.Put(payload, at)
		if wn, we := p.m.put(payload, at); n != wn || e != we {
			t.Fatalf("Put at %d of %d: %d, %d, want %d, %d", at, len(payload), n, e, wn, we)
		}
		for i := range payload {
			payload[i]++
		}
	case 4:
		p.now += r.Int64N(60)
		at := p.now - r.Int64N(3)*r.Int64N(30)
		got := p.w.Due(at)
		wantItems(t, got, p.m.due(at))
		for _, it := range got {
			clear(it.Payload)
		}
	case 5, 6:
		ack := uint32(max(0, int64(p.m.next)+2-r.Int64N(22)))
		mask := r.Uint32() & r.Uint32()
		if got, want := p.w.Ack(ack, mask), p.m.ack(ack, mask); got != want {
			t.Fatalf("Ack of %d and %08x: %d, want %d", ack, mask, got, want)
		}
	case 7:
		p.now += r.Int64N(10)
	}
	wantCounts(t, p.w, p.m.counts())
}

// P6.1 to P6.5: whatever is called, a window tells what its model does; so does a copy of it, made on the way, that goes on by itself.
func TestLikeTheModel(t *testing.T) {
	for seed := range uint64(400) {
		r := rand.New(rand.NewPCG(seed, 6))
		first := 1 + r.Int64N(20)
		p := pairOf(t, 1+r.Uint32N(200), first, first+r.Int64N(200))
		all := []*pair{p}
		for range 300 {
			p := all[r.IntN(len(all))]
			p.step(t, r)
			if r.IntN(100) == 0 {
				all = append(all, &pair{p.w.Copy(), p.m.copy(), p.now})
			}
		}
		for _, p := range all {
			wantCounts(t, p.w, p.m.counts())
			wantItems(t, p.w.Due(1<<40), p.m.due(1<<40))
		}
	}
}
