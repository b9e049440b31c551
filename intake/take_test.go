package intake_test

import (
	"bytes"
	"math"
	"slices"
	"testing"

	"longwire/api"
	"longwire/intake"
)

// floors tells floors at which much is tried.
func floors() []uint32 {
	return []uint32{0, 1, 2, 14, 15, 16, 17, 31, 32, 33, 255, 256, 300}
}

// numbersNear tells numbers around a floor, at 0, and at the highest ones.
func numbersNear(floor uint32) []uint32 {
	l := upTo(max(floor, 20)-20, floor+40)
	return append(l, 0, 1, 65535, 65536, 1<<24, 1<<31-1, 1<<31, 1<<31+1, 1<<32-16, 1<<32-15, 1<<32-2, math.MaxUint32)
}

// P7.1: what comes in its turn is handed on at once.
func TestInOrder(t *testing.T) {
	i := intake.New()
	for n := range uint32(70000) {
		wantTaken(t, i, n, n)
	}
	wantCounts(t, i, counts{floor: 70000})
}

// P7.1: the fate of each number, at many floors, with nothing kept, some, and all that may be.
func TestFates(t *testing.T) {
	for _, f := range floors() {
		for _, ahead := range [][]uint32{nil, {1}, {15}, {2, 3, 9}, {14, 15}, {1, 3, 5, 7, 9, 11, 13, 15}, upTo(1, 16)} {
			var kept []uint32
			for _, k := range ahead {
				kept = append(kept, f+k)
			}
			i := at(t, f, kept...)
			was := i.Copy()
			for _, n := range numbersNear(f) {
				want := intake.Taken
				switch {
				case n < f || slices.Contains(kept, n):
					want = intake.Again
				case int64(n) > int64(f)+15:
					want = intake.Far
				}
				_, fate, e := i.Copy().Take(n, payloadOf(n))
				if fate != want || e != api.OK {
					t.Errorf("floor %d, kept %d: the fate of %d is %d, %d, want %d", f, kept, n, fate, e, want)
				}
			}
			wantSame(t, i, was)
		}
	}
}

// P7.1: the edges: the floor, one below it, floor + MaxWindow - 1, and one beyond.
func TestEdges(t *testing.T) {
	for _, f := range floors() {
		i := at(t, f)
		if f > 0 {
			wantTake(t, i, f-1, payloadOf(77), intake.Again, api.OK)
			wantTake(t, i, 0, payloadOf(77), intake.Again, api.OK)
		}
		wantTake(t, i, f+16, payloadOf(77), intake.Far, api.OK)
		wantTake(t, i, math.MaxUint32, payloadOf(77), intake.Far, api.OK)
		wantCounts(t, i, counts{floor: f})
		wantTaken(t, i, f+15)
		wantCounts(t, i, counts{f, 1 << 14, 1, 3})
		wantTake(t, i, f+15, payloadOf(77), intake.Again, api.OK)
		wantTake(t, i, f+16, payloadOf(77), intake.Far, api.OK)
		wantTaken(t, i, f, f)
		wantCounts(t, i, counts{f + 1, 1 << 13, 1, 3})
	}
}

// P7.1: what was Far left nothing: it is Taken, as new, when the floor is near enough, and not earlier.
func TestFarLeavesNothing(t *testing.T) {
	i := intake.New()
	for n := range uint32(100) {
		for _, far := range []uint32{n + 16, n + 17, n + 31, n + 32, n + 33, math.MaxUint32 - n} {
			wantTake(t, i, far, []byte("far"), intake.Far, api.OK)
			wantCounts(t, i, counts{floor: n})
		}
		wantTaken(t, i, n, n)
		wantTaken(t, i.Copy(), n+16)
		wantTake(t, i, n+17, []byte("far"), intake.Far, api.OK)
	}
	for _, n := range upTo(101, 116) {
		wantTaken(t, i, n)
	}
	wantTaken(t, i, 100, upTo(100, 116)...)
}

// P7.1: what comes again, before and behind its handing on, with the same payload or another one, changes nothing.
func TestAgainChangesNothing(t *testing.T) {
	others := [][]byte{nil, {}, payloadOf(3), []byte("other"), make([]byte, 256)}
	i := at(t, 3, 4, 6, 18)
	was := i.Copy()
	for _, n := range []uint32{0, 1, 2, 4, 6, 18} {
		for _, p := range others {
			wantTake(t, i, n, p, intake.Again, api.OK)
			wantCounts(t, i, counts{3, 1<<0 | 1<<2 | 1<<14, 3, 9})
		}
	}
	wantSame(t, i, was)
	wantTaken(t, i, 3, 3, 4)
	wantTaken(t, i, 5, 5, 6)
	for n := range uint32(7) {
		for _, p := range others {
			wantTake(t, i, n, p, intake.Again, api.OK)
			wantCounts(t, i, counts{7, 1 << 10, 1, 3})
		}
	}
}

// P7.1, R2: a payload of 256 bytes is taken, one of more is not, whatever its number: nothing is changed, and the number may come yet.
func TestTooLong(t *testing.T) {
	for _, long := range []int{257, 258, 512, 65535, 65536, 1 << 20} {
		i := at(t, 3, 5, 18)
		was := i.Copy()
		for _, n := range numbersNear(3) {
			wantTake(t, i, n, make([]byte, long), 0, api.ErrLong)
			wantSame(t, i, was)
		}
		wantTaken(t, i, 4)
		wantTaken(t, i, 3, 3, 4, 5)
	}
	for _, long := range []int{0, 1, 255, 256} {
		i := intake.New()
		p := bytes.Repeat([]byte{9}, long)
		wantTake(t, i, 1, p, intake.Taken, api.OK)
		wantCounts(t, i, counts{0, 1, 1, long})
		wantTake(t, i, 0, p, intake.Taken, api.OK, p, p)
		wantTake(t, i, 2, p, intake.Taken, api.OK, p)
	}
}

// P7.1: payloads of none are payloads: they are kept, counted, told back, and handed on, each as one of none.
func TestPayloadsOfNone(t *testing.T) {
	for _, none := range [][]byte{nil, {}, make([]byte, 0, 10), []byte("abc")[:0]} {
		i := intake.New()
		wantTake(t, i, 2, none, intake.Taken, api.OK)
		wantTake(t, i, 1, none, intake.Taken, api.OK)
		wantCounts(t, i, counts{0, 3, 2, 0})
		wantTake(t, i, 1, none, intake.Again, api.OK)
		wantTake(t, i, 2, []byte("x"), intake.Again, api.OK)
		wantTake(t, i, 4, []byte("x"), intake.Taken, api.OK)
		wantTake(t, i, 0, none, intake.Taken, api.OK, nil, nil, nil)
		wantCounts(t, i, counts{3, 1, 1, 1})
		wantTake(t, i, 3, none, intake.Taken, api.OK, nil, []byte("x"))
		wantTake(t, i, 5, none, intake.Taken, api.OK, nil)
		wantCounts(t, i, counts{floor: 6})
	}
}

// P7.1, R3: payloads are kept, and handed on, in new memory: the caller's bytes, and those behind their end, are only read, and may be changed behind each call.
func TestPayloadsAreKeptAnew(t *testing.T) {
	for _, long := range []int{0, 1, 3, 255, 256} {
		i, room := intake.New(), make([]byte, 400)
		var want, got [][]byte
		for k, n := range []uint32{4, 2, 1, 3, 6, 0, 5, 7} {
			copy(room, bytes.Repeat([]byte{byte(n + 1)}, len(room)))
			was := bytes.Clone(room)
			out, fate, e := i.Take(n, room[:long])
			if fate != intake.Taken || e != api.OK || !bytes.Equal(room, was) {
				t.Fatalf("Take of %d: %d, %d, or what was handed in is changed", n, fate, e)
			}
			got = append(got, out...)
			want = append(want, bytes.Repeat([]byte{byte(k + 1)}, long))
			clear(room)
			i.Copy().Take(0, room)
		}
		if !slices.EqualFunc(got, want, bytes.Equal) {
			t.Errorf("%d bytes each: %q, want %q", long, got, want)
		}
	}
}

// P7.1, R3: what is handed on is new memory: it may be changed, and appended to, and no other payload, and no other intake, is changed by it.
func TestHandsOnAnew(t *testing.T) {
	i := at(t, 3, 4, 5, 7, 8)
	c := i.Copy()
	for _, n := range []uint32{3, 6} {
		was := countsOf(t, c)
		out, _, _ := i.Take(n, payloadOf(n))
		for k := range out {
			clear(out[k])
			out[k] = append(out[k], "and more behind it"...)
			if later := out[k+1:]; !slices.EqualFunc(later, payloadsOf(upTo(n+uint32(k)+1, n+uint32(len(out)))...), bytes.Equal) {
				t.Fatalf("%q are other ones", later)
			}
		}
		clear(out[:cap(out)])
		wantCounts(t, c, was)
	}
	wantTaken(t, c, 3, 3, 4, 5)
	wantTaken(t, c, 6, 6, 7, 8)
	wantSame(t, i, c)
}

// P7.1, R7: what an intake tells hangs on what it took alone: the same again is the same, each time.
func TestTheSameAgain(t *testing.T) {
	for range 200 {
		i := at(t, 20, 35, 21, 34, 22, 33, 23, 32, 24, 31, 25, 30, 26, 29, 27)
		wantCounts(t, i, counts{20, 0x7fff &^ (1 << 7), 14, 42})
		wantTaken(t, i, 28)
		wantTaken(t, i, 20, upTo(20, 36)...)
		wantCounts(t, i, counts{floor: 36})
	}
}
