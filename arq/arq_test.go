package arq_test

import (
	"bytes"
	"math"
	"slices"
	"strconv"
	"testing"

	"longwire/api"
	"longwire/arq"
)

// latest is the latest tick that there is.
const latest = 1 << 40

// counts is what an end tells of itself.
type counts struct {
	owes           bool
	window, intake int
	left           uint32
	wakes          int64
	any            bool
}

// countsOf tells what an end tells of itself.
func countsOf(e *arq.End) counts {
	w, i := e.Waits()
	wakes, any := e.Wakes()
	return counts{e.Owes(), w, i, e.Left(), wakes, any}
}

// wantCounts holds what an end tells of itself against what it must be.
func wantCounts(t *testing.T, e *arq.End, want counts) {
	t.Helper()
	if got := countsOf(e); got != want {
		t.Fatalf("counts %v, want %v", got, want)
	}
}

// noEnds tells ends that are none: nil, and those that New did not make.
func noEnds() []*arq.End {
	var declared arq.End
	return []*arq.End{nil, {}, new(arq.End), &declared}
}

// endOf tells an end, which must be OK.
func endOf(t *testing.T, c arq.Config) *arq.End {
	t.Helper()
	e, err := arq.New(c)
	if err != api.OK || e == nil {
		t.Fatalf("New: %v, %d, want an end, OK", e, err)
	}
	return e
}

// payloadOf tells a payload that tells its number.
func payloadOf(n uint32) string {
	return "p" + strconv.Itoa(int(n))
}

// payloadsOf tells the payloads of the numbers from one on, up to another one, but not that itself.
func payloadsOf(from, to uint32) []string {
	var l []string
	for n := from; n < to; n++ {
		l = append(l, payloadOf(n))
	}
	return l
}

// wantSend holds what Send tells against what it must tell.
func wantSend(t *testing.T, e *arq.End, payload string, now int64, want api.Errno) {
	t.Helper()
	if got := e.Send([]byte(payload), now); got != want {
		t.Fatalf("Send of %d bytes at %d: %d, want %d", len(payload), now, got, want)
	}
}

// sendAll sends the payloads of the numbers from one on, up to another one, at now; each must be OK.
func sendAll(t *testing.T, e *arq.End, from, to uint32, now int64) {
	t.Helper()
	for _, p := range payloadsOf(from, to) {
		wantSend(t, e, p, now, api.OK)
	}
}

// wantFrames asks that at now an end of config sends just these, sealed by its key.
func wantFrames(t *testing.T, e *arq.End, now int64, want ...gram) {
	t.Helper()
	var l [][]byte
	for _, g := range want {
		l = append(l, g.by(config().Out))
	}
	wantGrams(t, e.Frames(now), l)
}

// wantGrams holds datagrams against what they must be.
func wantGrams(t *testing.T, got, want [][]byte) {
	t.Helper()
	if !slices.EqualFunc(got, want, bytes.Equal) {
		t.Fatalf("datagrams %x, want %x", got, want)
	}
}

// texts tells payloads as texts.
func texts(l [][]byte) []string {
	var s []string
	for _, b := range l {
		s = append(s, string(b))
	}
	return s
}

// wantTake holds what Take tells against what it must tell.
func wantTake(t *testing.T, e *arq.End, b []byte, want api.Errno, out ...string) {
	t.Helper()
	got, err := e.Take(b)
	if err != want || !slices.Equal(texts(got), out) {
		t.Fatalf("Take of %x: %q, %d, want %q, %d", b, got, err, out, want)
	}
}

// wantTaken asks that an end of config takes a datagram, and hands just these payloads on.
func wantTaken(t *testing.T, e *arq.End, g gram, out ...string) {
	t.Helper()
	wantTake(t, e, g.in(), api.OK, out...)
}

// underWay tells an end of config that sent 0 to 5, of which it keeps 0, 2 and 5, that handed 0 to 2 on, keeps 4 and 7, and owes an ack. 0 and 2 are due at 35, 5 at 18.
func underWay(t *testing.T) *arq.End {
	t.Helper()
	e := endOf(t, config())
	sendAll(t, e, 0, 5, 5)
	e.Frames(5)
	e.Frames(15)
	sendAll(t, e, 5, 6, 8)
	e.Frames(8)
	wantTaken(t, e, dataOf(0, 0, 0, "a0"), "a0")
	wantTaken(t, e, dataOf(4, 0, 0b101, "a4"))
	wantTaken(t, e, dataOf(7, 0, 0b1101, "a7"))
	wantTaken(t, e, dataOf(1, 0, 0, "a1"), "a1")
	wantTaken(t, e, dataOf(2, 0, 0b1000, "a2"), "a2")
	wantCounts(t, e, counts{true, 3, 2, 994, 18, true})
	return e
}

// wantSame asks that an end is as another one: by what it tells of itself, and by what copies of both tell when time passes, and when all that they wait for comes.
func wantSame(t *testing.T, e, other *arq.End) {
	t.Helper()
	wantCounts(t, e, countsOf(other))
	a, b := e.Copy(), other.Copy()
	for range 5 {
		now, _ := b.Wakes()
		for _, at := range []int64{now - 1, now, now} { // what is due, and then the ack that is not owed any more
			wantGrams(t, a.Frames(at), b.Frames(at))
			wantCounts(t, a, countsOf(b))
		}
	}
	for n := range uint32(40) {
		g := dataOf(n, 0, 1<<n>>1, payloadOf(n)).in()
		out, err := b.Take(g)
		wantTake(t, a, g, err, texts(out)...)
		wantGrams(t, a.Frames(0), b.Frames(0))
		wantCounts(t, a, countsOf(b))
	}
	if err := b.Send([]byte("next"), 1<<30); a.Send([]byte("next"), 1<<30) != err {
		t.Fatalf("Send tells not %d", err)
	}
	wantGrams(t, a.Frames(latest), b.Frames(latest))
	wantCounts(t, a, countsOf(b))
}

// P8.1 to P8.4: the chapter's row.
func TestExample(t *testing.T) {
	e, other := endOf(t, config()), endOf(t, across(config()))
	wantSend(t, e, "a", 5, api.OK)
	wantSend(t, e, "b", 5, api.OK)
	wantCounts(t, e, counts{window: 2, left: 998, wakes: 5, any: true})
	two := e.Frames(5)
	wantGrams(t, two, [][]byte{dataOf(0, 0, 0, "a").by(config().Out), dataOf(1, 0, 0, "b").by(config().Out)})
	wantTake(t, other, two[0], api.OK, "a")
	wantCounts(t, other, counts{owes: true, left: 1000})
	told := other.Frames(6)
	wantGrams(t, told, [][]byte{ackOf(1, 0).in()})
	wantCounts(t, other, counts{left: 1000})
	wantTake(t, e, told[0], api.OK)
	wantCounts(t, e, counts{window: 1, left: 998, wakes: 15, any: true})
	wantFrames(t, e, 14)
	later := e.Frames(15)
	wantGrams(t, later, two[1:])
	wantTake(t, other, later[0], api.OK, "b")
	wantTake(t, e, other.Frames(16)[0], api.OK)
	wantCounts(t, e, counts{left: 998})
	wantCounts(t, other, counts{left: 1000})
}

// P8.1: a new end waits for nothing, and sends nothing.
func TestNew(t *testing.T) {
	for _, limit := range []uint32{1, 2, 16, 17, 1<<31 - 1, 1 << 31} {
		for _, c := range [][2]int64{{1, 1}, {10, 30}, {1, latest}, {latest, latest}} {
			a := config()
			a.Limit, a.First, a.Most = limit, c[0], c[1]
			e := endOf(t, a)
			for range 2 { // what is asked changes nothing
				wantCounts(t, e, counts{left: limit})
			}
			for _, now := range []int64{math.MinInt64, -1, 0, latest, math.MaxInt64} {
				wantFrames(t, e, now)
			}
			wantCounts(t, e, counts{left: limit})
		}
	}
}

// P8.1: what window.New refuses of limit, First and Most, New refuses.
func TestNewRefuses(t *testing.T) {
	for _, c := range []struct {
		limit       uint32
		first, most int64
	}{
		{0, 10, 30}, {1<<31 + 1, 10, 30}, {math.MaxUint32, 10, 30},
		{1000, 0, 30}, {1000, -1, 30}, {1000, math.MinInt64, 30}, {1000, 31, 30}, {1000, 10, 0}, {1000, 0, 0},
		{1000, -2, -1}, {1000, 10, latest + 1}, {1000, latest + 1, latest + 1}, {1000, 10, math.MaxInt64},
		{0, 0, 0}, {0, 31, 30}, {1<<31 + 1, 0, latest + 1},
	} {
		a := config()
		a.Limit, a.First, a.Most = c.limit, c.first, c.most
		if e, err := arq.New(a); e != nil || err != api.ErrArg {
			t.Errorf("New of %v: %v, %d, want none, ErrArg", c, e, err)
		}
	}
	if e, err := arq.New(arq.Config{}); e != nil || err != api.ErrArg {
		t.Errorf("New of nothing: %v, %d, want none, ErrArg", e, err)
	}
}

// P8.1: whatever session, epoch and keys are, there is an end of them, which sends, and takes, by them.
func TestNewOfAny(t *testing.T) {
	for _, s := range []uint32{0, 1, 1 << 31, math.MaxUint32} {
		for _, p := range []uint32{0, 1, math.MaxUint32} {
			for _, key := range []string{"", "one", "in"} {
				c := config()
				c.Session, c.Epoch, c.Out = s, p, keyOf(key)
				if key == "" {
					c.Out = [32]byte{}
				}
				e, other := endOf(t, c), endOf(t, across(c))
				wantSend(t, e, "x", 0, api.OK)
				l := e.Frames(0)
				wantGrams(t, l, [][]byte{gram{data, s, p, 0, 0, 0, "x"}.by(c.Out)})
				wantTake(t, other, l[0], api.OK, "x")
				l = other.Frames(0)
				wantGrams(t, l, [][]byte{gram{ack, s, p, 0, 1, 0, ""}.by(c.In)})
				wantTake(t, e, l[0], api.OK)
				wantCounts(t, e, counts{left: 999})
			}
		}
	}
}

// P8.1 to P8.3, R5: of none, and of an end that New did not make, all is nothing, however wrong what is handed in is.
func TestNoEnd(t *testing.T) {
	for _, e := range noEnds() {
		for range 3 {
			wantCounts(t, e, counts{})
			for _, now := range []int64{math.MinInt64, -1, 0, 5, latest, latest + 1, math.MaxInt64} {
				wantSend(t, e, "x", now, api.ErrNil)
				wantSend(t, e, string(make([]byte, 257)), now, api.ErrNil)
				wantGrams(t, e.Frames(now), nil)
			}
			for _, b := range [][]byte{
				nil, make([]byte, 35), dataOf(0, 0, 0, "x").in(), ackOf(0, 0).in(), gram{kind: hello}.in(),
				gram{kind: data}.by([32]byte{}), gram{kind: ack}.by([32]byte{}), dataOf(0, 0, 0, "x").tagged(0),
			} {
				wantTake(t, e, b, api.ErrNil)
			}
			if c := e.Copy(); c != nil {
				t.Errorf("Copy: %v, want none", c)
			}
			wantCounts(t, e, counts{})
		}
	}
}
