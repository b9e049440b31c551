package seq_test

import (
	"math"
	"testing"

	"longwire/api"
	"longwire/seq"
)

// spaceOf tells the space of a limit, which must be OK.
func spaceOf(t *testing.T, limit uint32) *seq.Space {
	t.Helper()
	s, e := seq.New(limit)
	if e != api.OK || s == nil {
		t.Fatalf("New(%d): %v, %d, want a space, OK", limit, s, e)
	}
	return s
}

// wantCounts holds how many numbers were given and are left against what they must be.
func wantCounts(t *testing.T, s *seq.Space, used, left uint32) {
	t.Helper()
	if s.Used() != used || s.Left() != left {
		t.Fatalf("Used %d, Left %d, want %d, %d", s.Used(), s.Left(), used, left)
	}
}

// wantNext holds what is given next against what it must be.
func wantNext(t *testing.T, s *seq.Space, want uint32, e api.Errno) {
	t.Helper()
	if n, got := s.Next(); n != want || got != e {
		t.Fatalf("Next: %d, %d, want %d, %d", n, got, want, e)
	}
}

// P5.1: New takes limits of 1 to 2^31, and no others.
func TestNew(t *testing.T) {
	for _, limit := range []uint32{1, 2, 3, 16, 255, 256, 65536, 1<<31 - 1, 1 << 31} {
		wantCounts(t, spaceOf(t, limit), 0, limit)
	}
	for _, limit := range []uint32{0, 1<<31 + 1, 1<<31 + 2, 3 << 30, math.MaxUint32 - 1, math.MaxUint32} {
		if s, e := seq.New(limit); s != nil || e != api.ErrArg {
			t.Errorf("New(%d): %v, %d, want none, ErrArg", limit, s, e)
		}
	}
}

// P5.1, P5.5: each number once, from 0 on, in order, and none behind the last one, for ever.
func TestNext(t *testing.T) {
	for _, limit := range []uint32{1, 2, 3, 16, 17, 255, 256, 257, 70000} {
		s := spaceOf(t, limit)
		for n := range limit {
			wantCounts(t, s, n, limit-n)
			wantNext(t, s, n, api.OK)
		}
		for range 1000 {
			wantCounts(t, s, limit, 0)
			wantNext(t, s, 0, api.ErrFull)
		}
		wantCounts(t, s, limit, 0)
	}
}

// P5.1: a space that has one left gives it, and then has none.
func TestOneLeft(t *testing.T) {
	s := spaceOf(t, 5)
	for n := range uint32(4) {
		wantNext(t, s, n, api.OK)
	}
	wantCounts(t, s, 4, 1)
	wantNext(t, s, 4, api.OK)
	wantCounts(t, s, 5, 0)
	wantNext(t, s, 0, api.ErrFull)
	wantCounts(t, s, 5, 0)
}

// P5.1: of none, and of a space that New did not make, ErrNil and 0, however often they are asked.
func TestNoSpace(t *testing.T) {
	var declared seq.Space
	for _, s := range []*seq.Space{nil, {}, new(seq.Space), &declared} {
		for range 3 {
			wantCounts(t, s, 0, 0)
			wantNext(t, s, 0, api.ErrNil)
		}
		wantCounts(t, s, 0, 0)
	}
}

// P5.1: what is asked changes nothing, and what one space gives another one still has.
func TestSpacesApart(t *testing.T) {
	a, b := spaceOf(t, 3), spaceOf(t, 2)
	wantNext(t, a, 0, api.OK)
	wantNext(t, a, 1, api.OK)
	wantNext(t, b, 0, api.OK)
	for range 3 {
		wantCounts(t, a, 2, 1)
		wantCounts(t, b, 1, 1)
	}
	wantNext(t, a, 2, api.OK)
	wantNext(t, a, 0, api.ErrFull)
	wantNext(t, b, 1, api.OK)
	wantNext(t, b, 0, api.ErrFull)
	wantNext(t, spaceOf(t, 2), 0, api.OK)
}

// P5.5: the greatest space gives all its numbers, each once, in order, and none behind the last one.
func TestGreatestSpace(t *testing.T) {
	if testing.Short() {
		t.Skip("it gives 2^31 numbers")
	}
	const limit = 1 << 31
	s := spaceOf(t, limit)
	for want := range uint32(limit) {
		if n, e := s.Next(); n != want || e != api.OK {
			t.Fatalf("Next: %d, %d, want %d, OK", n, e, want)
		}
	}
	for range 1000 {
		wantCounts(t, s, limit, 0)
		wantNext(t, s, 0, api.ErrFull)
	}
	wantCounts(t, s, limit, 0)
}
