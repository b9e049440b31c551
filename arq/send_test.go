package arq_test

import (
	"math"
	"strings"
	"testing"

	"longwire/api"
)

// P8.1: a payload of 256 bytes is sent, one of 257 and more is not; one of none is.
func TestSendLengths(t *testing.T) {
	e, other := endOf(t, config()), endOf(t, across(config()))
	var sent []string
	for _, long := range []int{0, 1, 255, 256} {
		sent = append(sent, strings.Repeat("x", long))
		wantSend(t, e, sent[len(sent)-1], 5, api.OK)
	}
	for _, long := range []int{257, 258, 600, 65535, 65536} {
		wantSend(t, e, strings.Repeat("x", long), 5, api.ErrLong)
	}
	wantCounts(t, e, counts{window: 4, left: 996, wakes: 5, any: true})
	l := e.Frames(5)
	for k, b := range l {
		wantTake(t, other, b, api.OK, sent[k])
	}
	if len(l) != 4 || len(l[3]) != 291 {
		t.Fatalf("%d datagrams, of %d bytes the last one", len(l), len(l[3]))
	}
}

// P8.1: ticks of 0 to MaxTicks, and no others.
func TestSendTicks(t *testing.T) {
	for _, now := range []int64{0, 1, latest - 1, latest} {
		e := endOf(t, config())
		wantSend(t, e, "x", now, api.OK)
		wantCounts(t, e, counts{window: 1, left: 999, wakes: now, any: true})
	}
	for _, now := range []int64{-1, math.MinInt64, latest + 1, math.MaxInt64} {
		e := endOf(t, config())
		wantSend(t, e, "x", now, api.ErrArg)
		wantCounts(t, e, counts{left: 1000})
	}
}

// P8.1: a window of 16 is full: then nothing is sent till one is told as had, by the ack, or by the mask.
func TestSendIntoAFullWindow(t *testing.T) {
	e := endOf(t, config())
	sendAll(t, e, 0, 16, 5)
	full := counts{window: 16, left: 984, wakes: 5, any: true}
	wantSend(t, e, "x", 5, api.ErrBusy)
	wantCounts(t, e, full)
	e.Frames(5)
	wantSend(t, e, "x", 6, api.ErrBusy)
	wantTaken(t, e, ackOf(0, 1<<4))
	wantSend(t, e, payloadOf(16), 6, api.OK)
	wantSend(t, e, "x", 6, api.ErrBusy)
	wantTaken(t, e, ackOf(1, 1<<3))
	wantSend(t, e, payloadOf(17), 6, api.OK)
	wantSend(t, e, "x", 6, api.ErrBusy)
	wantFrames(t, e, 6, dataOf(16, 0, 0, payloadOf(16)), dataOf(17, 0, 0, payloadOf(17)))
}

// P8.1: behind the last number nothing is sent any more, also when all is told as had.
func TestSendWithoutANumber(t *testing.T) {
	for _, limit := range []uint32{1, 2, 3, 15} {
		c := config()
		c.Limit = limit
		e := endOf(t, c)
		sendAll(t, e, 0, limit, 5)
		for range 2 {
			wantSend(t, e, "x", 5, api.ErrFull)
			wantCounts(t, e, counts{window: int(limit), wakes: 5, any: true})
		}
		wantTaken(t, e, ackOf(limit, 0))
		wantSend(t, e, "x", 5, api.ErrFull)
		wantCounts(t, e, counts{})
		wantTaken(t, e, dataOf(0, 0, 0, "a"), "a") // it takes, and tells, all the same
		wantFrames(t, e, 5, ackOf(1, 0))
	}
}

// P8.1: of several errors of Send the first one is told, and nothing is changed.
func TestSendErrorsAtOnce(t *testing.T) {
	c := config()
	c.Limit = 16
	e := endOf(t, c)
	long := strings.Repeat("x", 257)
	wantSend(t, e, long, -1, api.ErrArg)
	wantSend(t, e, long, latest+1, api.ErrArg)
	sendAll(t, e, 0, 16, 5)
	was := e.Copy()
	wantSend(t, e, long, -1, api.ErrArg)
	wantSend(t, e, "x", -1, api.ErrArg)
	wantSend(t, e, long, 5, api.ErrLong)
	wantSend(t, e, "x", 5, api.ErrBusy) // and no number is left
	wantSame(t, e, was)
	wantTaken(t, e, ackOf(1, 0))
	was = e.Copy()
	wantSend(t, e, long, latest+1, api.ErrArg)
	wantSend(t, e, long, 5, api.ErrLong)
	wantSend(t, e, "x", 5, api.ErrFull)
	wantSame(t, e, was)
}

// R2: an error of Send changes nothing of an end with items under way, nor that it owes.
func TestSendErrorsChangeNothing(t *testing.T) {
	e := underWay(t)
	wantSend(t, e, strings.Repeat("x", 257), 20, api.ErrLong)
	wantSame(t, e, underWay(t))
	wantSend(t, e, "x", -1, api.ErrArg)
	wantSame(t, e, underWay(t))
}

// P8.1: the items that are due are sent, and no others, by rising numbers, at their ticks.
func TestFramesOfWhatIsDue(t *testing.T) {
	e := endOf(t, config())
	wantSend(t, e, "late", 7, api.OK)
	wantSend(t, e, "soon", 5, api.OK)
	wantSend(t, e, "later", 9, api.OK)
	late, soon, later := dataOf(0, 0, 0, "late"), dataOf(1, 0, 0, "soon"), dataOf(2, 0, 0, "later")
	wantFrames(t, e, 4)
	wantFrames(t, e, 5, soon)
	wantFrames(t, e, 5)
	wantFrames(t, e, 8, late)
	wantFrames(t, e, 14, later)
	wantFrames(t, e, 15, soon)
	wantFrames(t, e, 24, late, later)
	wantFrames(t, e, 44, late, soon, later)
	wantFrames(t, e, 73)
	wantFrames(t, e, 74, late, soon, later)
	wantCounts(t, e, counts{window: 3, left: 997, wakes: 104, any: true})
}

// P8.1: ticks below 0 and above MaxTicks are brought to these.
func TestFramesTicks(t *testing.T) {
	e := endOf(t, config())
	wantSend(t, e, "x", 1, api.OK)
	wantSend(t, e, "y", 0, api.OK)
	wantFrames(t, e, -1, dataOf(1, 0, 0, "y"))
	wantFrames(t, e, math.MinInt64)
	wantFrames(t, e, math.MaxInt64, dataOf(0, 0, 0, "x"), dataOf(1, 0, 0, "y"))
	wantFrames(t, e, latest)
}

// P8.1: with none due and an ack owed, an Ack is sent; then none is owed, and nothing is sent.
func TestFramesOfAnAck(t *testing.T) {
	e := endOf(t, config())
	wantTaken(t, e, dataOf(1, 0, 0, "b"))
	wantCounts(t, e, counts{owes: true, intake: 1, left: 1000})
	wantFrames(t, e, 3, ackOf(0, 1))
	wantCounts(t, e, counts{intake: 1, left: 1000})
	wantFrames(t, e, 3)
	wantFrames(t, e, latest)
	wantTaken(t, e, dataOf(0, 0, 0, "a"), "a", "b")
	wantTaken(t, e, dataOf(5, 0, 0, "f"))
	wantFrames(t, e, 3, ackOf(2, 0b100)) // one for both
	wantFrames(t, e, 3)
}

// P8.1: with items that are kept, but none due, an ack that is owed is sent; it changes nothing of the items.
func TestFramesOfAnAckWithItemsKept(t *testing.T) {
	e := endOf(t, config())
	wantSend(t, e, "x", 5, api.OK)
	wantTaken(t, e, dataOf(0, 0, 0, "a"), "a")
	wantFrames(t, e, 4, ackOf(1, 0))
	wantFrames(t, e, 4)
	wantFrames(t, e, 5, dataOf(0, 1, 0, "x"))
	wantTaken(t, e, dataOf(1, 0, 0, "b"), "b")
	wantFrames(t, e, 14, ackOf(2, 0))
	wantFrames(t, e, 15, dataOf(0, 2, 0, "x"))
}

// P8.1: with items due and an ack owed, the items tell it: there is no Ack, and none is owed behind them.
func TestFramesOfBoth(t *testing.T) {
	e := underWay(t)
	wantFrames(t, e, 18, dataOf(5, 3, 0b1001, payloadOf(5)))
	wantCounts(t, e, counts{false, 3, 2, 994, 35, true})
	wantFrames(t, e, 18)
	wantFrames(t, e, 34)
	wantFrames(t, e, 35, dataOf(0, 3, 0b1001, payloadOf(0)), dataOf(2, 3, 0b1001, payloadOf(2)))
	wantFrames(t, e, 35)
}

// P8.1: what is sent again tells what the intake has by then, not what it had before.
func TestFramesTellTheLatest(t *testing.T) {
	e := endOf(t, config())
	wantSend(t, e, "x", 0, api.OK)
	wantFrames(t, e, 0, dataOf(0, 0, 0, "x"))
	for k := range uint32(15) {
		wantTaken(t, e, dataOf(k+1, 0, 0, payloadOf(k+1)))
		now, _ := e.Wakes()
		wantFrames(t, e, now, dataOf(0, 0, 1<<(k+1)-1, "x"))
	}
	wantTaken(t, e, dataOf(0, 0, 0, payloadOf(0)), payloadsOf(0, 16)...)
	now, _ := e.Wakes()
	wantFrames(t, e, now, dataOf(0, 16, 0, "x"))
}

// P8.1: all 16 of a window are sent at once, each with its payload, ack and mask.
func TestFramesOfAFullWindow(t *testing.T) {
	e := endOf(t, config())
	wantTaken(t, e, dataOf(3, 0, 0, "d"))
	var want []gram
	for n := range uint32(16) {
		p := strings.Repeat(payloadOf(n), 60)
		wantSend(t, e, p, 5, api.OK)
		want = append(want, dataOf(n, 0, 0b100, p))
	}
	for _, now := range []int64{5, 15, 35, 65, 95} {
		wantFrames(t, e, now, want...)
		wantFrames(t, e, now)
		wantTaken(t, e, dataOf(3, 0, 0, "d"))
		wantFrames(t, e, now, ackOf(0, 0b100))
	}
}
