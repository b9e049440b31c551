package intake_test

import (
	"bytes"
	"math"
	"slices"
	"testing"

	"longwire/api"
	"longwire/intake"
)

// counts is what an intake tells of itself.
type counts struct {
	floor, mask  uint32
	waits, bytes int
}

// noIntakes tells intakes that are none: nil, and those that New did not make.
func noIntakes() []*intake.Intake {
	var declared intake.Intake
	return []*intake.Intake{nil, {}, new(intake.Intake), &declared}
}

// payloadOf tells a payload of 3 bytes that tells its number.
func payloadOf(n uint32) []byte {
	return []byte{byte(n >> 16), byte(n >> 8), byte(n)}
}

// payloadsOf tells the payloads of some numbers.
func payloadsOf(numbers ...uint32) [][]byte {
	var l [][]byte
	for _, n := range numbers {
		l = append(l, payloadOf(n))
	}
	return l
}

// upTo tells the numbers from one on, up to another one, but not that itself.
func upTo(from, to uint32) []uint32 {
	var l []uint32
	for n := from; n < to; n++ {
		l = append(l, n)
	}
	return l
}

// wantTake holds what Take tells against what it must tell.
func wantTake(t *testing.T, i *intake.Intake, number uint32, payload []byte, fate int, e api.Errno, out ...[]byte) {
	t.Helper()
	got, gotFate, gotE := i.Take(number, payload)
	if gotFate != fate || gotE != e || !slices.EqualFunc(got, out, bytes.Equal) {
		t.Fatalf("Take of %d, %d bytes: %q, %d, %d, want %q, %d, %d", number, len(payload), got, gotFate, gotE, out, fate, e)
	}
}

// wantTaken asks that a number, with its payload of payloadOf, is taken, and that those of just these numbers are handed on.
func wantTaken(t *testing.T, i *intake.Intake, number uint32, handed ...uint32) {
	t.Helper()
	wantTake(t, i, number, payloadOf(number), intake.Taken, api.OK, payloadsOf(handed...)...)
}

// countsOf tells what an intake tells of itself; the ack must be the floor.
func countsOf(t *testing.T, i *intake.Intake) counts {
	t.Helper()
	ack, mask := i.Told()
	if ack != i.Floor() {
		t.Fatalf("the ack is %d, the floor %d", ack, i.Floor())
	}
	return counts{i.Floor(), mask, i.Waits(), i.Bytes()}
}

// wantCounts holds what an intake tells of itself against what it must be.
func wantCounts(t *testing.T, i *intake.Intake, want counts) {
	t.Helper()
	if got := countsOf(t, i); got != want {
		t.Fatalf("counts %v, want %v", got, want)
	}
}

// at tells an intake whose floor is that number, and that keeps these numbers.
func at(t *testing.T, floor uint32, kept ...uint32) *intake.Intake {
	t.Helper()
	i := intake.New()
	for n := range floor {
		wantTaken(t, i, n, n)
	}
	for _, n := range kept {
		wantTaken(t, i, n)
	}
	return i
}

// wantSame asks that an intake is as another one, by what copies of both hand on when what they wait for comes.
func wantSame(t *testing.T, i, other *intake.Intake) {
	t.Helper()
	wantCounts(t, i, countsOf(t, other))
	a, b := i.Copy(), other.Copy()
	for range api.MaxWindow {
		n := b.Floor()
		out, fate, e := b.Take(n, payloadOf(n))
		wantTake(t, a, n, payloadOf(n), fate, e, out...)
		wantCounts(t, a, countsOf(t, b))
	}
}

// P7.1: the chapter's row.
func TestExample(t *testing.T) {
	i := intake.New()
	wantTake(t, i, 1, []byte("b"), intake.Taken, api.OK)
	wantCounts(t, i, counts{0, 1, 1, 1})
	wantTake(t, i, 0, []byte("a"), intake.Taken, api.OK, []byte("a"), []byte("b"))
	wantCounts(t, i, counts{floor: 2})
	wantTake(t, i, 0, []byte("x"), intake.Again, api.OK)
	wantCounts(t, i, counts{floor: 2})
}

// P7.1: the fates' numbers, and a new intake, which waits for 0, and keeps nothing, whatever another one took.
func TestNew(t *testing.T) {
	if intake.Taken != 1 || intake.Again != 2 || intake.Far != 3 {
		t.Errorf("fates %d, %d, %d", intake.Taken, intake.Again, intake.Far)
	}
	for range 3 {
		i := intake.New()
		for range 2 { // what is asked changes nothing
			wantCounts(t, i, counts{})
		}
		wantTaken(t, i, 1)
		wantTaken(t, i, 0, 0, 1)
	}
}

// P7.1, P7.2, R5: of none, and of an intake that New did not make, all is nothing, and nothing is taken, however long.
func TestNoIntake(t *testing.T) {
	for _, i := range noIntakes() {
		for range 3 {
			wantCounts(t, i, counts{})
			for _, n := range []uint32{0, 1, 15, 16, 1<<31 - 1, math.MaxUint32} {
				for _, long := range []int{0, 1, 256, 257, 65536} {
					wantTake(t, i, n, make([]byte, long), 0, api.ErrNil)
				}
			}
			if c := i.Copy(); c != nil {
				t.Errorf("Copy: %v, want none", c)
			}
			wantCounts(t, i, counts{})
		}
	}
}
