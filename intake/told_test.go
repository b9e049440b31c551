package intake_test

import (
	"testing"

	"longwire/api"
	"longwire/intake"
	"longwire/seq"
)

// P7.2: an empty intake keeps nothing, also one that is empty again, at whatever floor.
func TestEmpty(t *testing.T) {
	for _, f := range floors() {
		wantCounts(t, at(t, f), counts{floor: f})
		i := at(t, f, f+1, f+2, f+15)
		wantTaken(t, i, f, f, f+1, f+2)
		for _, n := range upTo(f+3, f+14) {
			wantTaken(t, i, n, n)
		}
		wantTaken(t, i, f+14, f+14, f+15)
		for range 2 { // what is asked changes nothing
			wantCounts(t, i, counts{floor: f + 16})
			wantCounts(t, i.Copy(), counts{floor: f + 16})
		}
	}
}

// P7.2, P7.4: a gap of each size, and one number behind it.
func TestOneBehindAGap(t *testing.T) {
	for _, f := range floors() {
		for gap := uint32(1); gap <= 15; gap++ {
			i := at(t, f, f+gap)
			wantCounts(t, i, counts{f, 1 << (gap - 1), 1, 3})
			for n := f; n < f+gap-1; n++ {
				wantTaken(t, i, n, n)
				wantCounts(t, i, counts{n + 1, 1 << (f + gap - n - 2), 1, 3})
			}
			wantTaken(t, i, f+gap-1, f+gap-1, f+gap)
			wantCounts(t, i, counts{floor: f + gap + 1})
		}
	}
}

// P7.2, P7.4: a gap of each size, and all behind it that may be kept.
func TestAllBehindAGap(t *testing.T) {
	for _, f := range floors() {
		for gap := uint32(1); gap <= 16; gap++ {
			i := at(t, f, upTo(f+gap, f+16)...)
			waits := int(16 - gap)
			wantCounts(t, i, counts{f, 0x7fff >> (gap - 1) << (gap - 1), waits, 3 * waits})
			wantTake(t, i, f+16, nil, intake.Far, api.OK)
			for n := f + gap - 1; n > f; n-- { // the gap is filled from its end
				wantTaken(t, i, n)
				waits++
				wantCounts(t, i, counts{f, 0x7fff >> (n - f - 1) << (n - f - 1), waits, 3 * waits})
			}
			wantTaken(t, i, f, upTo(f, f+16)...)
			wantCounts(t, i, counts{floor: f + 16})
		}
	}
}

// P7.2: each set of numbers ahead of the floor that may be kept is told back by its bits, and counted.
func TestEachMask(t *testing.T) {
	for mask := uint32(0); mask < 1<<15; mask++ {
		i := intake.New()
		waits := 0
		for n := range seq.Told(0, mask) {
			wantTaken(t, i, n)
			waits++
		}
		wantCounts(t, i, counts{0, mask, waits, 3 * waits})
	}
}

// P7.2: Bytes tells the bytes of those that are kept, and of no others.
func TestBytes(t *testing.T) {
	i := intake.New()
	for k, c := range []struct {
		number uint32
		long   int
		want   counts
	}{
		{2, 5, counts{0, 0b10, 1, 5}},
		{2, 9, counts{0, 0b10, 1, 5}}, // again
		{15, 256, counts{0, 1<<14 | 0b10, 2, 261}},
		{16, 7, counts{0, 1<<14 | 0b10, 2, 261}},  // far
		{3, 257, counts{0, 1<<14 | 0b10, 2, 261}}, // too long
		{3, 0, counts{0, 1<<14 | 0b110, 3, 261}},
		{1, 40, counts{0, 1<<14 | 0b111, 4, 301}},
		{0, 100, counts{4, 1 << 10, 1, 256}}, // 0 to 3 are handed on
		{1, 100, counts{4, 1 << 10, 1, 256}},
		{4, 100, counts{5, 1 << 9, 1, 256}},
	} {
		i.Take(c.number, make([]byte, c.long))
		for range 2 { // what is asked changes nothing
			if got := countsOf(t, i); got != c.want {
				t.Fatalf("step %d: counts %v, want %v", k, got, c.want)
			}
		}
	}
	full := intake.New()
	for _, n := range upTo(1, 16) {
		wantTake(t, full, n, make([]byte, 256), intake.Taken, api.OK)
	}
	wantCounts(t, full, counts{0, 0x7fff, 15, 15 * 256})
}
