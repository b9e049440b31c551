package arq_test

import (
	"bytes"
	"fmt"
	"math"
	"strings"
	"testing"

	"longwire/api"
	"longwire/arq"
)

// refused is a datagram that no end of config takes, and why.
type refused struct {
	name string
	b    []byte
	want api.Errno
}

// good tells a datagram that an end of config would take: all of it would change one that is under way.
func good() gram {
	return dataOf(3, 1, 0b1, "a3")
}

// of tells good with something else.
func of(change func(g *gram)) gram {
	g := good()
	change(&g)
	return g
}

// refusedByFrame tells datagrams that frame.Decode does not read, with the right tag as far as there is one.
func refusedByFrame() []refused {
	key := config().In
	b := good().in()
	long := of(func(g *gram) { g.payload = strings.Repeat("x", 257) })
	return []refused{
		{"nothing", nil, api.ErrShort},
		{"a byte", []byte{3}, api.ErrShort},
		{"34 bytes", b[:34], api.ErrShort},
		{"cut by a byte", b[:len(b)-1], api.ErrShort},
		{"cut by the check", b[:len(b)-4], api.ErrShort},
		{"cut by the tag, and checked", checked(b[:len(b)-12]), api.ErrShort},
		{"a byte more", append(bytes.Clone(b), 0), api.ErrForm},
		{"two at once", append(bytes.Clone(b), b...), api.ErrForm},
		{"a bit of the check", flipped(b, 8*len(b)-1), api.ErrCheck},
		{"a bit of the tag", flipped(b, 8*(len(b)-5)), api.ErrCheck},
		{"a bit of the kind", flipped(b, 2), api.ErrCheck},
		{"a long payload", long.by(key), api.ErrForm},
		{"kind 0", of(func(g *gram) { g.kind = 0 }).by(key), api.ErrForm},
		{"kind 6", of(func(g *gram) { g.kind = 6 }).by(key), api.ErrForm},
		{"kind 255", of(func(g *gram) { g.kind = 255 }).by(key), api.ErrForm},
		{"a number of 2^31", of(func(g *gram) { g.number = 1 << 31 }).by(key), api.ErrForm},
		{"the highest number", of(func(g *gram) { g.number = math.MaxUint32 }).by(key), api.ErrForm},
		{"an Ack with a payload", of(func(g *gram) { g.kind, g.number = ack, 0 }).by(key), api.ErrForm},
		{"an Ack with a number", of(func(g *gram) { g.kind, g.payload = ack, "" }).by(key), api.ErrForm},
		{"a Hello with a number", of(func(g *gram) { g.kind, g.ack, g.mask = hello, 0, 0 }).by(key), api.ErrForm},
	}
}

// refusedByKind tells datagrams of other kinds that may be, with the right tag.
func refusedByKind() []refused {
	var l []refused
	for _, kind := range []byte{hello, welcome, refuse} {
		for _, payload := range []string{"", "a3", strings.Repeat("x", 256)} {
			g := gram{kind: kind, session: config().Session, epoch: config().Epoch, payload: payload}
			l = append(l, refused{fmt.Sprint("kind ", kind), g.in(), api.ErrState})
		}
	}
	return l
}

// refusedByEpoch tells datagrams of another session, or epoch, with the right tag.
func refusedByEpoch() []refused {
	var l []refused
	for _, n := range []uint32{0, 1, 0x0a0b0c0d, 0x01020304, 1 << 31, math.MaxUint32} {
		for _, g := range []gram{good(), ackOf(1, 0b1)} {
			s, p := g, g
			s.session, p.epoch = n, n
			if s != g {
				l = append(l, refused{fmt.Sprint("session ", n), s.in(), api.ErrStale})
			}
			if p != g {
				l = append(l, refused{fmt.Sprint("epoch ", n), p.in(), api.ErrStale})
			}
		}
	}
	for bit := range 32 {
		s, p := good(), ackOf(1, 0b1)
		s.session ^= 1 << bit
		p.epoch ^= 1 << bit
		l = append(l, refused{fmt.Sprint("session's bit ", bit), s.in(), api.ErrStale})
		l = append(l, refused{fmt.Sprint("epoch's bit ", bit), p.in(), api.ErrStale})
	}
	swapped := of(func(g *gram) { g.session, g.epoch = g.epoch, g.session })
	return append(l, refused{"session for epoch", swapped.in(), api.ErrStale})
}

// refusedByTag tells datagrams with another tag.
func refusedByTag() []refused {
	var l []refused
	other := of(func(g *gram) { g.number = 5 })
	for _, g := range []gram{good(), ackOf(1, 0b1)} {
		right := g.tag(config().In)
		l = append(l,
			refused{"tag 0", g.tagged(0), api.ErrCheck},
			refused{"a tag by the sending key", g.by(config().Out), api.ErrCheck},
			refused{"a tag by no key", g.by([32]byte{}), api.ErrCheck},
			refused{"a tag by another key", g.by(keyOf("other")), api.ErrCheck},
			refused{"the tag of another one", g.tagged(other.tag(config().In)), api.ErrCheck},
			refused{"all bits turned", g.tagged(^right), api.ErrCheck},
			refused{"one more", g.tagged(right + 1), api.ErrCheck},
		)
		for bit := range 64 {
			l = append(l, refused{fmt.Sprint("bit ", bit), g.tagged(right ^ 1<<bit), api.ErrCheck})
		}
	}
	return l
}

// refusedByMore tells datagrams that are wrong in several ways: the chapter's order tells which one is answered.
func refusedByMore() []refused {
	kind := func(g *gram) { g.kind, g.number, g.ack, g.mask = welcome, 0, 0, 0 }
	session := func(g *gram) { g.session++ }
	epoch := func(g *gram) { g.epoch++ }
	both := func(g *gram) { kind(g); session(g); epoch(g) }
	stale := func(g *gram) { session(g); epoch(g) }
	out := config().Out
	return []refused{
		{"frame's check, kind, session, tag", flipped(of(both).by(out), 40), api.ErrCheck},
		{"frame's check, kind", flipped(of(kind).in(), 240), api.ErrCheck},
		{"frame's check, session", flipped(of(session).in(), 240), api.ErrCheck},
		{"short, kind, session, tag", of(both).by(out)[:36], api.ErrShort},
		{"form, kind, session, tag", append(of(both).by(out), 0), api.ErrForm},
		{"form (a kind that is none), session, tag", of(func(g *gram) { g.kind = 7; stale(g) }).by(out), api.ErrForm},
		{"form (a number), epoch, tag", of(func(g *gram) { g.number = 1 << 31; epoch(g) }).by(out), api.ErrForm},
		{"kind, session, epoch, tag", of(both).by(out), api.ErrState},
		{"kind, session", of(func(g *gram) { kind(g); session(g) }).in(), api.ErrState},
		{"kind, epoch", of(func(g *gram) { kind(g); epoch(g) }).in(), api.ErrState},
		{"kind, tag", of(kind).by(out), api.ErrState},
		{"session, epoch, tag", of(stale).by(out), api.ErrStale},
		{"session, tag", of(session).by(out), api.ErrStale},
		{"epoch, tag", of(epoch).by(out), api.ErrStale},
		{"session, epoch", of(stale).in(), api.ErrStale},
		{"session, the tag as it was", of(session).tagged(good().tag(config().In)), api.ErrStale},
		{"epoch, the tag as it was", of(epoch).tagged(good().tag(config().In)), api.ErrStale},
	}
}

// allRefused tells all of these.
func allRefused() []refused {
	l := append(refusedByFrame(), refusedByKind()...)
	l = append(l, refusedByEpoch()...)
	return append(append(l, refusedByTag()...), refusedByMore()...)
}

// P8.2: each error, and several at once, in the chapter's order; nothing is handed on.
func TestTakeRefuses(t *testing.T) {
	for _, e := range []*arq.End{endOf(t, config()), underWay(t)} {
		for _, c := range allRefused() {
			if out, err := e.Take(c.b); len(out) != 0 || err != c.want {
				t.Errorf("%s: %q, %d, want nothing, %d", c.name, texts(out), err, c.want)
			}
		}
	}
}

// P8.2: an error changes nothing: not what is owed, told back, due, or handed on behind it.
func TestTakeErrorsChangeNothing(t *testing.T) {
	e := underWay(t)
	quiet := underWay(t)
	quiet.Frames(17) // it owes no ack
	wasQuiet := quiet.Copy()
	for _, c := range allRefused() {
		e.Take(c.b)
		wantCounts(t, e, countsOf(underWay(t)))
		quiet.Take(c.b)
		wantCounts(t, quiet, counts{false, 3, 2, 994, 18, true})
	}
	wantSame(t, e, underWay(t))
	wantSame(t, quiet, wasQuiet)
	wantTaken(t, e, good(), "a3", "a4") // what was refused, as it should be, changes it
	wantCounts(t, e, counts{true, 1, 1, 994, 18, true})
}

// P8.2: each bit turned, with a check that is right for it: such a datagram is refused, and changes nothing.
func TestTakeOfEachBitTurned(t *testing.T) {
	e := underWay(t)
	for _, g := range []gram{good(), ackOf(1, 0b1)} {
		b := g.in()
		for bit := range 8 * (len(b) - 4) {
			turned := flipped(b, bit)
			wantTake(t, e, turned, refusal(t, e, turned))
			turned = rechecked(turned)
			wantTake(t, e, turned, refusal(t, e, turned))
		}
	}
	wantSame(t, e, underWay(t))
}

// refusal tells the error by which a copy of an end refuses a datagram.
func refusal(t *testing.T, e *arq.End, b []byte) api.Errno {
	t.Helper()
	out, err := e.Copy().Take(b)
	if err == api.OK || len(out) != 0 {
		t.Fatalf("Take of %x: %q, %d, want an error", b, texts(out), err)
	}
	return err
}

// P8.2, P8.3: an ack is owed behind each Data that was taken, whatever its fate; what was sent behind the one ahead.
func TestTakeOwes(t *testing.T) {
	e := endOf(t, config())
	for _, c := range []struct {
		name   string
		number uint32
		out    []string
		told   gram
	}{
		{"new, the floor", 0, payloadsOf(0, 1), ackOf(1, 0)},
		{"new, ahead", 3, nil, ackOf(1, 0b10)},
		{"again, kept", 3, nil, ackOf(1, 0b10)},
		{"again, handed on", 0, nil, ackOf(1, 0b10)},
		{"far", 17, nil, ackOf(1, 0b10)},
		{"very far", 1<<31 - 1, nil, ackOf(1, 0b10)},
		{"new, the last one that is not far", 16, nil, ackOf(1, 1<<14|0b10)},
		{"new, in the gap", 2, nil, ackOf(1, 1<<14|0b11)},
		{"new, the floor, and all behind it", 1, payloadsOf(1, 4), ackOf(4, 1<<11)},
		{"again, below the ack that was told", 2, nil, ackOf(4, 1<<11)},
		{"far, that was far ahead", 1 << 30, nil, ackOf(4, 1<<11)},
		{"new, that was far ahead", 17, nil, ackOf(4, 0b11<<11)},
	} {
		for range 2 { // the second time it comes again, and is owed again
			wantTaken(t, e, dataOf(c.number, 0, 0, payloadOf(c.number)), c.out...)
			if !e.Owes() {
				t.Fatalf("%s: no ack is owed", c.name)
			}
			wantFrames(t, e, 9, c.told)
			if e.Owes() {
				t.Fatalf("%s: an ack is owed behind it", c.name)
			}
			c.out = nil
		}
	}
}

// P8.2: a Data that comes behind its own ack, late or doubled, hands nothing on, whatever is in it, and is told again.
func TestTakeBehindItsAck(t *testing.T) {
	e := endOf(t, config())
	first := dataOf(0, 0, 0, "a").in()
	wantTake(t, e, first, api.OK, "a")
	wantFrames(t, e, 5, ackOf(1, 0))
	for range 3 {
		wantTake(t, e, first, api.OK)
		wantTaken(t, e, dataOf(0, 0, 0, "another"))
		wantCounts(t, e, counts{owes: true, left: 1000})
		wantFrames(t, e, 5, ackOf(1, 0))
	}
}

// P8.2: an Ack alone makes no ack owed, nor takes away that one is.
func TestTakeOfAnAckOwesNothing(t *testing.T) {
	e := endOf(t, config())
	sendAll(t, e, 0, 3, 5)
	wantTaken(t, e, ackOf(1, 0))
	wantCounts(t, e, counts{window: 2, left: 997, wakes: 5, any: true})
	wantTaken(t, e, dataOf(0, 0, 0, "a"), "a")
	wantTaken(t, e, ackOf(3, 0))
	wantCounts(t, e, counts{owes: true, left: 997})
	wantFrames(t, e, 5, ackOf(1, 0))
}

// wantHeard asks that of an end that sent 0 to 5 a datagram that tells an ack and a mask leaves just these.
func wantHeard(t *testing.T, g gram, out []string, left ...uint32) {
	t.Helper()
	e := endOf(t, config())
	sendAll(t, e, 0, 6, 5)
	wantTaken(t, e, dataOf(1, 0, 0, "b"))
	wantTaken(t, e, g, out...)
	told, mask := uint32(0), uint32(1)
	if len(out) > 0 {
		told, mask = 2, 0
	}
	var want []gram
	for _, n := range left {
		want = append(want, dataOf(n, told, mask, payloadOf(n)))
	}
	if len(left) == 0 {
		want = append(want, ackOf(told, mask))
	}
	wantFrames(t, e, 5, want...)
}

// P8.2: ack and mask are heard, of an Ack, and of a Data, whatever its fate; an ack above the next number tells nothing.
func TestTakeHears(t *testing.T) {
	for _, c := range []struct {
		told, mask uint32
		left       []uint32
	}{
		{0, 0, []uint32{0, 1, 2, 3, 4, 5}},
		{1, 0, []uint32{1, 2, 3, 4, 5}},
		{5, 0, []uint32{5}},
		{6, 0, nil},
		{7, 0, []uint32{0, 1, 2, 3, 4, 5}},
		{math.MaxUint32, math.MaxUint32, []uint32{0, 1, 2, 3, 4, 5}},
		{0, 1, []uint32{0, 2, 3, 4, 5}},
		{2, 0b101, []uint32{2, 4}},
		{0, math.MaxUint32, []uint32{0}},
		{6, math.MaxUint32, nil},
	} {
		wantHeard(t, ackOf(c.told, c.mask), nil, c.left...)
		wantHeard(t, dataOf(0, c.told, c.mask, "a"), []string{"a", "b"}, c.left...)
		wantHeard(t, dataOf(1, c.told, c.mask, "b"), nil, c.left...)  // again
		wantHeard(t, dataOf(40, c.told, c.mask, "x"), nil, c.left...) // far
	}
}

// P8.2: acks that come late, or again, take nothing back.
func TestTakeOfOldAcks(t *testing.T) {
	e := endOf(t, config())
	sendAll(t, e, 0, 6, 5)
	for _, g := range []gram{ackOf(4, 0), ackOf(1, 0), ackOf(0, 1), ackOf(4, 0), dataOf(0, 2, 0b1, "a")} {
		e.Take(g.in())
		wantCounts(t, e, counts{e.Owes(), 2, 0, 994, 5, true})
	}
	wantFrames(t, e, 5, dataOf(4, 1, 0, payloadOf(4)), dataOf(5, 1, 0, payloadOf(5)))
}

// P8.2: payloads of all lengths that may be are handed on, whatever bytes they have.
func TestTakeOfLengths(t *testing.T) {
	e := endOf(t, config())
	for n := range uint32(257) {
		p := make([]byte, n)
		for k := range p {
			p[k] = byte(n + uint32(k))
		}
		wantTaken(t, e, dataOf(n, 0, 0, string(p)), string(p))
	}
	wantFrames(t, e, 0, ackOf(257, 0))
}

// P5, R1: whatever bytes come, none of them panics, and none changes anything.
func TestTakeOfWhatever(t *testing.T) {
	e := underWay(t)
	b := good().in()
	for k := range len(b) {
		e.Take(b[:k])
		e.Take(b[k+1:])
		if k < len(b)-4 { // ahead of the check; else it would be the right one again
			e.Take(checked(b[:k]))
		}
		for _, with := range []byte{1, 2, 3, 4, 127, 255} {
			c := bytes.Clone(b)
			c[k] ^= with
			e.Take(c)
			if k < len(b)-4 {
				e.Take(rechecked(c))
			}
		}
		e.Take(bytes.Repeat([]byte{byte(k)}, k*9))
		e.Take(checked(bytes.Repeat([]byte{4}, k*9)))
	}
	wantSame(t, e, underWay(t))
}
