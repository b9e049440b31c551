package net_test

import (
	"bytes"
	"encoding/binary"
	"maps"
	"math/rand/v2"
	"slices"
	"testing"

	"longwire/api"
	"longwire/net"
)

// model is a net made from the words of the chapter alone: each datagram is a list of its bits, lowest first, and the order is told by the numbers under which they came.
type model struct {
	ways  [2]map[int][]bool
	comes int
}

func modelOf() *model {
	return &model{ways: [2]map[int][]bool{{}, {}}}
}

func bitsOf(b []byte) []bool {
	l := []bool{}
	for _, x := range b {
		for k := range 8 {
			l = append(l, x/(1<<k)%2 == 1)
		}
	}
	return l
}

func bytesOf(bits []bool) []byte {
	l := make([]byte, len(bits)/8)
	for i, is := range bits {
		if is {
			l[i/8] += 1 << (i % 8)
		}
	}
	return l
}

func isWay(way int) bool { return way == net.Up || way == net.Down }

// numbers tells under which numbers those that wait came, the first one first.
func (m *model) numbers(way int) []int {
	return slices.Sorted(maps.Keys(m.ways[way]))
}

func (m *model) put(way int, bits []bool) {
	m.ways[way][m.comes] = bits
	m.comes++
}

func (m *model) send(way int, b []byte) (bool, api.Errno) {
	if !isWay(way) {
		return false, api.ErrArg
	}
	if len(b) > maxGram {
		return false, api.ErrLong
	}
	lost := len(m.ways[way]) == maxWaits
	if lost {
		delete(m.ways[way], m.numbers(way)[0])
	}
	m.put(way, bitsOf(b))
	return lost, api.OK
}

func (m *model) at(way, at int) (int, api.Errno) {
	if !isWay(way) {
		return 0, api.ErrArg
	}
	l := m.numbers(way)
	if at < 0 || at >= len(l) {
		return 0, api.ErrNone
	}
	return l[at], api.OK
}

func (m *model) deliver(way, at int) ([]byte, api.Errno) {
	number, e := m.at(way, at)
	if e != api.OK {
		return nil, e
	}
	b := bytesOf(m.ways[way][number])
	delete(m.ways[way], number)
	return b, api.OK
}

func (m *model) double(way, at int) api.Errno {
	number, e := m.at(way, at)
	switch {
	case e != api.OK:
		return e
	case len(m.ways[way]) == maxWaits:
		return api.ErrFull
	}
	m.put(way, append([]bool{}, m.ways[way][number]...))
	return api.OK
}

func (m *model) flip(way, at, bit int) api.Errno {
	number, e := m.at(way, at)
	if e != api.OK {
		return e
	}
	for k := range m.ways[way][number] {
		if k == bit {
			m.ways[way][number][k] = !m.ways[way][number][k]
			return api.OK
		}
	}
	return api.ErrArg
}

func (m *model) waiting(way int) []string {
	var l []string
	for _, number := range m.numbers(way) {
		l = append(l, string(bytesOf(m.ways[way][number])))
	}
	return l
}

// anyWay tells mostly a way that is one.
func anyWay(r *rand.Rand) int {
	if r.IntN(12) == 0 {
		return r.IntN(6) - 2
	}
	return r.IntN(2)
}

// anyPlace tells mostly a place at which one stands.
func anyPlace(r *rand.Rand, n *net.Net, way int) int {
	if r.IntN(8) == 0 {
		return r.IntN(2*maxWaits) - maxWaits/2
	}
	return r.IntN(max(n.Waits(way), 1))
}

// anyGram tells bytes, mostly few, and now and then so many that they are nearly, or really, too many.
func anyGram(r *rand.Rand) []byte {
	many := r.IntN(4)
	if r.IntN(16) == 0 {
		many = maxGram - 2 + r.IntN(5)
	}
	b := make([]byte, many)
	for i := range b {
		b[i] = byte(r.Uint32())
	}
	return b
}

// step does one call on a net and on its model.
func step(t *testing.T, r *rand.Rand, n *net.Net, m *model, sends int) {
	t.Helper()
	way := anyWay(r)
	at := anyPlace(r, n, way)
	var got, e api.Errno
	kind := r.IntN(3 + sends)
	switch kind {
	case 0:
		var b, wanted []byte
		b, got = n.Deliver(way, at)
		wanted, e = m.deliver(way, at)
		if !bytes.Equal(b, wanted) {
			t.Fatalf("Deliver of %d of way %d is %.40x, not %.40x", at, way, b, wanted)
		}
	case 1:
		got, e = n.Double(way, at), m.double(way, at)
	case 2:
		bit := r.IntN(30) - 3
		got, e = n.Flip(way, at, bit), m.flip(way, at, bit)
	default:
		b := anyGram(r)
		var lost, wanted bool
		lost, got = n.Send(way, b)
		wanted, e = m.send(way, b)
		if lost != wanted {
			t.Fatalf("Send on way %d loses one: %t, not %t", way, lost, wanted)
		}
	}
	if got != e {
		t.Fatalf("call %d of way %d, place %d is %d, not %d", kind, way, at, got, e)
	}
}

// P11.1 to P11.4: rows of calls on both ways answer as the model does, also where the first ones are lost.
func TestModel(t *testing.T) {
	r := rand.New(rand.NewPCG(11, 1))
	for i := range 60 {
		n, m := net.New(), modelOf()
		sends := 1 + i%4
		for range 300 {
			step(t, r, n, m, sends)
			for way := -1; way < 3; way++ {
				if isWay(way) {
					wantWaiting(t, n, way, m.waiting(way)...)
				} else if n.Waits(way) != 0 {
					t.Errorf("%d wait on way %d", n.Waits(way), way)
				}
			}
			if t.Failed() {
				t.FailNow()
			}
		}
	}
}

// origin is what became of a datagram since it was sent: how many of it there are at most, on which way, and which bits were ever turned.
type origin struct {
	way, many int
	turned    [8]byte
}

// traffic sends datagrams that begin with a number of their own, and turns bits behind that number alone.
type traffic struct {
	t    *testing.T
	r    *rand.Rand
	n    *net.Net
	sent []origin
}

// of finds where a datagram of a way comes from.
func (f *traffic) of(way int, b []byte) *origin {
	f.t.Helper()
	if len(b) != 12 {
		f.t.Fatalf("%x was never sent", b)
	}
	number := binary.BigEndian.Uint32(b)
	if int(number) >= len(f.sent) || f.sent[number].way != way {
		f.t.Fatalf("%x was never sent on way %d", b, way)
	}
	return &f.sent[number]
}

func (f *traffic) send(way int) {
	b := binary.BigEndian.AppendUint32(nil, uint32(len(f.sent)))
	f.sent = append(f.sent, origin{way: way, many: 1})
	if _, e := f.n.Send(way, append(b, make([]byte, 8)...)); e != api.OK {
		f.t.Fatalf("Send is %d", e)
	}
}

// standing finds what stands at a place.
func (f *traffic) standing(way, place int) []byte {
	for at, b := range f.n.All(way) {
		if at == place {
			return b
		}
	}
	return nil
}

func (f *traffic) double(way, at int) {
	if f.n.Double(way, at) == api.OK {
		f.of(way, f.standing(way, at)).many++
	}
}

func (f *traffic) flip(way, at int) {
	bit := f.r.IntN(64)
	if f.n.Flip(way, at, 32+bit) == api.OK {
		f.of(way, f.standing(way, at)).turned[bit/8] |= 1 << (bit % 8)
	}
}

func (f *traffic) deliver(way, at int) {
	b, e := f.n.Deliver(way, at)
	if e != api.OK {
		return
	}
	o := f.of(way, b)
	o.many--
	if o.many < 0 {
		f.t.Fatalf("%x is delivered more often than it was sent and doubled", b)
	}
	for k, x := range b[4:] {
		if x&^o.turned[k] != 0 {
			f.t.Fatalf("%x has a bit turned that nobody turned: %x", b, o.turned)
		}
	}
}

// rounds does steps on some nets, each with a way and a place that one stands at, or is just past the last, delivers all, and asks something of each.
func rounds(t *testing.T, seed uint64, do func(f *traffic, way, at int), ask func(f *traffic)) {
	t.Helper()
	r := rand.New(rand.NewPCG(11, seed))
	for range 60 {
		f := &traffic{t: t, r: r, n: net.New()}
		for range 600 {
			way := r.IntN(2)
			do(f, way, r.IntN(f.n.Waits(way)+1))
		}
		for _, way := range bothWays() {
			for range f.n.Waits(way) {
				f.deliver(way, 0)
			}
		}
		ask(f)
	}
}

// P11.4: what is delivered is what was sent, or doubled, with bits turned that were turned, at most as often, on its own way.
func TestNothingByItself(t *testing.T) {
	rounds(t, 2, func(f *traffic, way, at int) {
		switch f.r.IntN(6) {
		case 0:
			f.deliver(way, at)
		case 1:
			f.double(way, at)
		case 2:
			f.flip(way, at)
		default:
			f.send(way)
		}
	}, func(f *traffic) {})
}

// P11.4: where none is lost, all that was sent and doubled is delivered, each just as often.
func TestAllComes(t *testing.T) {
	rounds(t, 3, func(f *traffic, way, at int) {
		switch {
		case f.n.Waits(way) == maxWaits || f.r.IntN(3) == 0:
			f.deliver(way, at)
		case f.r.IntN(2) == 0:
			f.double(way, at)
		default:
			f.send(way)
		}
	}, func(f *traffic) {
		for number, o := range f.sent {
			if o.many != 0 {
				t.Fatalf("%d of number %d are missing", o.many, number)
			}
		}
	})
}
