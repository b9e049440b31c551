package intake_test

import (
	"bytes"
	"math"
	"math/rand/v2"
	"slices"
	"testing"

	"longwire/api"
	"longwire/intake"
	"longwire/seq"
	"longwire/window"
)

// orders goes through all orders of some numbers.
func orders(numbers []uint32, yield func(order []uint32)) {
	var put func(k int)
	put = func(k int) {
		if k == len(numbers) {
			yield(numbers)
			return
		}
		for j := k; j < len(numbers); j++ {
			numbers[k], numbers[j] = numbers[j], numbers[k]
			put(k + 1)
			numbers[k], numbers[j] = numbers[j], numbers[k]
		}
	}
	put(0)
}

// P7.3: seven numbers in each order; each comes again behind each other one, with another payload.
func TestEachOrder(t *testing.T) {
	orders(upTo(0, 7), func(order []uint32) {
		i := intake.New()
		var got [][]byte
		for k, n := range order {
			out, fate, e := i.Take(n, payloadOf(n))
			if fate != intake.Taken || e != api.OK {
				t.Fatalf("order %d: the fate of %d is %d, %d", order, n, fate, e)
			}
			got = append(got, out...)
			for _, again := range order[:k+1] {
				wantTake(t, i, again, []byte("again"), intake.Again, api.OK)
			}
			if len(got) != int(i.Floor()) || len(got)+i.Waits() != k+1 {
				t.Fatalf("order %d: behind %d numbers %d are handed on, %d kept", order, k+1, len(got), i.Waits())
			}
		}
		if !slices.EqualFunc(got, payloadsOf(upTo(0, 7)...), bytes.Equal) {
			t.Fatalf("order %d: %q", order, got)
		}
	})
}

// P7.3: numbers in falling order: the last one to come hands all on.
func TestFallingOrder(t *testing.T) {
	for _, f := range floors() {
		for many := uint32(1); many <= 16; many++ {
			i := at(t, f)
			for n := f + many - 1; n > f; n-- {
				wantTaken(t, i, n)
			}
			wantTaken(t, i, f, upTo(f, f+many)...)
			wantCounts(t, i, counts{floor: f + many})
		}
	}
}

// P7.3: a gap at each place, of each size, that is filled last, by rising and by falling numbers.
func TestGapIsFilledLast(t *testing.T) {
	for from := uint32(0); from < 16; from++ {
		for to := from + 1; to <= 16; to++ {
			i := intake.New()
			for _, n := range upTo(0, from) {
				wantTaken(t, i, n, n)
			}
			for _, n := range upTo(to, 16) {
				wantTaken(t, i, n)
			}
			j := i.Copy()
			for n := from; n < to-1; n++ {
				wantTaken(t, i, n, n)
			}
			wantTaken(t, i, to-1, upTo(to-1, 16)...)
			for n := to - 1; n > from; n-- {
				wantTaken(t, j, n)
			}
			wantTaken(t, j, from, upTo(from, 16)...)
		}
	}
}

// P7.3: two gaps: what is behind the second one is kept when the first one is filled.
func TestTwoGaps(t *testing.T) {
	i := at(t, 5, 6, 7, 9, 10, 12)
	wantTaken(t, i, 5, 5, 6, 7)
	wantCounts(t, i, counts{8, 0b1011, 3, 9})
	wantTaken(t, i, 11)
	wantTaken(t, i, 8, 8, 9, 10, 11, 12)
	wantCounts(t, i, counts{floor: 13})
}

// model is an intake, made from the words of the chapter alone: all that was ever taken stands in a map, by numbers that do not go round.
type model struct {
	floor uint64
	taken map[uint64]string
}

func (m *model) take(number uint64, payload []byte) (out [][]byte, fate int, e api.Errno) {
	_, is := m.taken[number]
	switch {
	case len(payload) > 256:
		return nil, 0, api.ErrLong
	case is:
		return nil, intake.Again, api.OK
	case number > m.floor+15:
		return nil, intake.Far, api.OK
	}
	m.taken[number] = string(payload)
	for {
		p, is := m.taken[m.floor]
		if !is {
			return out, intake.Taken, api.OK
		}
		out = append(out, []byte(p))
		m.floor++
	}
}

// told tells whether an ack and a mask tell a number.
func told(ack, mask uint32, n uint64) bool {
	a := uint64(ack)
	return n < a || n > a && n <= a+32 && mask>>(n-a-1)&1 == 1
}

// wantLike asks that what an intake tells of itself is what its model has.
func wantLike(t *testing.T, i *intake.Intake, m *model) {
	t.Helper()
	ack, mask := i.Told()
	waits, bytes := 0, 0
	for n := range m.floor + 40 {
		p, is := m.taken[n]
		if told(ack, mask, n) != is {
			t.Fatalf("of %d: ack %d, mask %x tell %v", n, ack, mask, !is)
		}
		if is && n >= m.floor {
			waits, bytes = waits+1, bytes+len(p)
		}
	}
	wantCounts(t, i, counts{uint32(m.floor), mask, waits, bytes})
	if waits > 15 {
		t.Fatalf("%d are kept", waits)
	}
}

// pair is an intake, and its model.
type pair struct {
	i *intake.Intake
	m *model
}

// step lets both take one number, by chance, and holds what they tell against each other.
func (p pair) step(t *testing.T, r *rand.Rand) {
	t.Helper()
	n := uint32(max(0, int64(p.m.floor)-4+r.Int64N(24)))
	switch r.IntN(30) {
	case 0:
		n = r.Uint32()
	case 1:
		n = math.MaxUint32 - r.Uint32N(20)
	}
	payload := make([]byte, r.IntN(260))
	for k := range payload {
		payload[k] = byte(r.Uint32())
	}
	out, fate, e := p.m.take(uint64(n), payload)
	wantTake(t, p.i, n, payload, fate, e, out...)
	for k := range payload {
		payload[k]++
	}
	wantLike(t, p.i, p.m)
}

// P7.1 to P7.4: whatever comes, an intake tells what its model does; so does a copy of it, made on the way, that goes on by itself.
func TestLikeTheModel(t *testing.T) {
	for seed := range uint64(200) {
		r := rand.New(rand.NewPCG(seed, 7))
		all := []pair{{intake.New(), &model{taken: map[uint64]string{}}}}
		for range 300 {
			p := all[r.IntN(len(all))]
			p.step(t, r)
			if r.IntN(100) == 0 {
				taken := map[uint64]string{}
				for n, s := range p.m.taken {
					taken[n] = s
				}
				all = append(all, pair{p.i.Copy(), &model{p.m.floor, taken}})
			}
		}
	}
}

// P7.3, P7.4: over a way that loses, doubles, and mixes what is sent, and loses what is told back, all that a window has is handed on, in order, each once; what is told back was taken, so the window drops nothing else.
func TestBehindAWindow(t *testing.T) {
	const many = 400
	for seed := range uint64(10) {
		r := rand.New(rand.NewPCG(seed, 77))
		w, _ := window.New(many, 3, 20)
		i := intake.New()
		var way []window.Item
		handed := uint32(0)
		for now := int64(0); handed < many || w.Len() > 0; now++ {
			if now > 1<<17 {
				t.Fatalf("%d of %d are handed on", handed, many)
			}
			for w.Len() < 16 && w.Left() > 0 {
				w.Put(payloadOf(w.Next()), now)
			}
			for _, it := range w.Due(now) {
				for range r.IntN(3) {
					way = append(way, it)
				}
			}
			r.Shuffle(len(way), func(a, b int) { way[a], way[b] = way[b], way[a] })
			for range min(len(way), r.IntN(8)) {
				out, fate, e := i.Take(way[0].Number, way[0].Payload) // it may be Far: the mask lets the window run ahead
				if e != api.OK || !slices.EqualFunc(out, payloadsOf(upTo(handed, i.Floor())...), bytes.Equal) {
					t.Fatalf("of %d: %q, %d, %d, with %d handed on", way[0].Number, out, fate, e, handed)
				}
				handed, way = i.Floor(), way[1:]
			}
			if ack, mask := i.Told(); r.IntN(3) == 0 {
				w.Ack(ack, mask)
			}
		}
	}
}

// P7.4: what is told back, told by seq, is just what is kept, as a number that is kept comes Again, and one that is not is Taken.
func TestToldIsWhatIsKept(t *testing.T) {
	i := at(t, 40, 41, 44, 50, 55)
	var got []uint32
	ack, mask := i.Told()
	for n := range seq.Told(ack, mask) {
		got = append(got, n)
	}
	if want := []uint32{41, 44, 50, 55}; ack != 40 || !slices.Equal(got, want) {
		t.Fatalf("told %d, %d, want 40, %d", ack, got, want)
	}
	for n := range uint32(56) {
		want := intake.Taken
		if n < 40 || slices.Contains(got, n) {
			want = intake.Again
		}
		if _, fate, _ := i.Copy().Take(n, nil); fate != want {
			t.Errorf("the fate of %d is %d, want %d", n, fate, want)
		}
	}
}
