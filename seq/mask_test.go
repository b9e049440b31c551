package seq_test

import (
	"fmt"
	"slices"
	"testing"

	"longwire/seq"
)

// acks tells acks at the numbers' ends, where a mask's numbers just fit, and between.
func acks() []uint32 {
	return []uint32{
		0, 1, 9, 31, 32, 65535, 1<<31 - 33, 1<<31 - 1, 1 << 31, 3 << 30,
		highest - 34, highest - 33, highest - 32, highest - 31, highest - 17, highest - 2, highest - 1, highest,
	}
}

// masks tells masks of no bit, of each one bit, of all, of all but one, and of several.
func masks() []uint32 {
	l := []uint32{0, highest, 5, 0x55555555, 0xaaaaaaaa, 0x80000001, 0x0000ffff, 0xffff0000, 0x12345678}
	for k := range 32 {
		l = append(l, 1<<k, ^uint32(1<<k))
	}
	return l
}

// numbersOf tells the numbers of a mask, made from the words of the chapter alone, in numbers that do not go round.
func numbersOf(ack, mask uint32) []uint32 {
	var l []uint32
	for k := range uint64(32) {
		n := uint64(ack) + 1 + k
		if mask>>k&1 == 1 && n <= highest {
			l = append(l, uint32(n))
		}
	}
	return l
}

// fitting tells the mask of all numbers that there are behind an ack.
func fitting(ack uint32) uint32 {
	mask := uint32(0)
	for k := range uint64(32) {
		if uint64(ack)+1+k <= highest {
			mask |= 1 << k
		}
	}
	return mask
}

// wantMask holds a mask against what it must be.
func wantMask(t *testing.T, name string, ack uint32, have func(n uint32) bool, want uint32) {
	t.Helper()
	if got := seq.Mask(ack, have); got != want {
		t.Errorf("%s: the mask of %d is %08x, want %08x", name, ack, got, want)
	}
}

// P5.3: the chapter's example.
func TestMaskExample(t *testing.T) {
	wantMask(t, "10 and 12", 9, oneOf(10, 12), 5)
	wantNumbers(t, "10 and 12", seq.Told(9, 5), []uint32{10, 12})
}

// P5.3: masks that are known, at the ends of what a mask tells and of the numbers.
func TestMaskKnown(t *testing.T) {
	for _, c := range []struct {
		ack  uint32
		had  []uint32
		want uint32
	}{
		{0, []uint32{0}, 0},
		{0, []uint32{1}, 1},
		{0, []uint32{0, 1, 31, 32, 33}, 0xc0000001},
		{9, []uint32{8, 9}, 0},
		{9, []uint32{41}, 0x80000000},
		{9, []uint32{42}, 0},
		{highest - 32, []uint32{highest - 31, highest}, 0x80000001},
		{highest - 31, []uint32{highest - 30, highest, 0}, 0x40000001},
		{highest - 1, []uint32{highest, 0, 1, 2}, 1},
		{highest, []uint32{highest, 0, 1, 31}, 0},
	} {
		wantMask(t, fmt.Sprint(c.had), c.ack, oneOf(c.had...), c.want)
	}
}

// P5.3: of all that are had, of none, and of those not behind the ack.
func TestMaskOfAllAndNone(t *testing.T) {
	for _, ack := range acks() {
		wantMask(t, "all", ack, everyNumber, fitting(ack))
		wantMask(t, "none", ack, noNumber, 0)
		wantMask(t, "up to the ack", ack, func(n uint32) bool { return n <= ack }, 0)
		wantMask(t, "too far", ack, func(n uint32) bool { return uint64(n) > uint64(ack)+32 }, 0)
	}
	for ack, want := range map[uint32]uint32{
		0: highest, highest - 32: highest, highest - 31: 0x7fffffff, highest - 2: 3, highest - 1: 1, highest: 0,
	} {
		wantMask(t, "all", ack, everyNumber, want)
	}
}

// P5.3: have is asked of no number but those that a mask can tell: none goes round.
func TestMaskAsks(t *testing.T) {
	for _, ack := range acks() {
		asked := map[uint32]int{}
		seq.Mask(ack, func(n uint32) bool {
			asked[n]++
			return n%3 == 0
		})
		want := numbersOf(ack, highest)
		if len(asked) != len(want) {
			t.Errorf("%d: %d asked, want %d", ack, len(asked), len(want))
		}
		for _, n := range want {
			if asked[n] != 1 {
				t.Errorf("%d: %d is asked %d times", ack, n, asked[n])
			}
		}
	}
}

// P5.3: what each mask tells of each ack, rising.
func TestTold(t *testing.T) {
	for _, ack := range acks() {
		for _, mask := range masks() {
			wantNumbers(t, fmt.Sprintf("%d, %08x", ack, mask), seq.Told(ack, mask), numbersOf(ack, mask))
		}
	}
}

// P5.3: what is told at the numbers' highest end, written down.
func TestToldAtTheEnd(t *testing.T) {
	wantNumbers(t, "the highest", seq.Told(highest, highest), nil)
	wantNumbers(t, "one below it", seq.Told(highest-1, highest), []uint32{highest})
	wantNumbers(t, "one below it, others", seq.Told(highest-1, highest-1), nil)
	wantNumbers(t, "two below it", seq.Told(highest-2, highest), []uint32{highest - 1, highest})
	wantNumbers(t, "all fit", seq.Told(highest-32, 0x80000001), []uint32{highest - 31, highest})
	wantNumbers(t, "one does not", seq.Told(highest-31, 0xc0000001), []uint32{highest - 30, highest})
	if got := collected(t, seq.Told(highest-32, highest)); len(got) != 32 {
		t.Errorf("%d told, want 32", len(got))
	}
}

// P5.3: what a mask tells, stopped at the first, at each middle, and at the last number.
func TestToldStopped(t *testing.T) {
	for _, ack := range acks() {
		for _, mask := range masks() {
			wantStops(t, fmt.Sprintf("%d, %08x", ack, mask), seq.Told(ack, mask), numbersOf(ack, mask))
		}
	}
}

// P5.4: from a mask to what it tells, and back: the mask is the same, but for the numbers that there are not.
func TestMaskThereAndBack(t *testing.T) {
	for _, ack := range acks() {
		for _, mask := range masks() {
			told := collected(t, seq.Told(ack, mask))
			wantMask(t, fmt.Sprintf("of %08x", mask), ack, oneOf(told...), mask&fitting(ack))
			if ack <= highest-32 && seq.Mask(ack, oneOf(told...)) != mask {
				t.Errorf("%d, %08x: another mask", ack, mask)
			}
		}
	}
}

// P5.4: from what is had to its mask, and back: just those of the 32 numbers behind the ack that are had.
func TestHadThereAndBack(t *testing.T) {
	for _, ack := range acks() {
		behind := numbersOf(ack, highest)
		for _, have := range []func(n uint32) bool{
			everyNumber, noNumber,
			func(n uint32) bool { return n%2 == 0 },
			func(n uint32) bool { return n%3 == 1 },
			func(n uint32) bool { return n*2654435761>>29 < 3 },
			func(n uint32) bool { return n < 20 || n > highest-7 },
			oneOf(behind[:len(behind)/2]...),
			oneOf(behind[len(behind)/2:]...),
		} {
			want := slices.DeleteFunc(slices.Clone(behind), func(n uint32) bool { return !have(n) })
			wantNumbers(t, fmt.Sprint("had behind ", ack), seq.Told(ack, seq.Mask(ack, have)), want)
		}
	}
}

// P5.4: a mask and what is missing of the numbers behind its ack part these between them.
func TestMaskAndMissing(t *testing.T) {
	const ack = 1000
	for _, mask := range masks() {
		told := collected(t, seq.Told(ack, mask))
		missing := collected(t, seq.Span{From: ack + 1, To: ack + 33}.Missing(oneOf(told...)))
		if want := numbersOf(ack, ^mask); !slices.Equal(missing, want) {
			t.Errorf("%08x: %d miss, want %d", mask, missing, want)
		}
	}
}

// R1: a have that is not there, or that panics, has told of no number that it is had.
func TestMaskOfWrongHaves(t *testing.T) {
	for _, have := range wrongHaves() {
		for _, ack := range acks() {
			wantMask(t, "a wrong have", ack, have, 0)
		}
	}
	wantMask(t, "a have that panics once", 9, func(n uint32) bool {
		if n == 11 {
			panic("no answer")
		}
		return n <= 12
	}, 5)
}
