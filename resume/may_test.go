package resume_test

import (
	"math"
	"testing"

	"longwire/resume"
)

// openOf tells some that are open, of these ids, nothing had of them.
func openOf(ids ...uint32) []resume.Have {
	var l []resume.Have
	for _, id := range ids {
		l = append(l, resume.Have{Id: id})
	}
	return l
}

// upTo tells the ids from 1 to last.
func upTo(last uint32) []uint32 {
	var l []uint32
	for id := uint32(1); id <= last; id++ {
		l = append(l, id)
	}
	return l
}

// goodAsks tells what may be told: ordinary ones, and those that are just right.
func goodAsks() []resume.Ask {
	return []resume.Ask{
		{Next: 1},
		{Next: 1, Open: []resume.Have{}},
		{Next: 2},
		{Next: 2, Open: openOf(1)},
		{Next: math.MaxUint32},
		{Next: math.MaxUint32, Open: openOf(1, math.MaxUint32-1)},
		{Next: 6, Open: openOf(2, 4, 5)},
		{Next: 17, Open: openOf(upTo(16)...)},
		{Next: 1000, Open: openOf(upTo(16)...)},
		{Next: 0x01020304, Open: []resume.Have{
			{Id: 5, Out: 0x11121314, Err: 0x21222324, Status: true},
			{Id: 0x01020303, Out: math.MaxUint32, Err: 1},
		}},
	}
}

// badAsks tells what may not be told, but has a form.
func badAsks() []resume.Ask {
	return []resume.Ask{
		{},
		{Next: 0, Open: openOf(1)},
		{Next: 1, Open: openOf(1)},
		{Next: 1, Open: openOf(0)},
		{Next: 3, Open: openOf(0, 1)},
		{Next: 3, Open: openOf(1, 3)},
		{Next: 3, Open: openOf(1, 4)},
		{Next: 3, Open: openOf(math.MaxUint32)},
		{Next: 5, Open: openOf(2, 2)},
		{Next: 5, Open: openOf(1, 2, 2)},
		{Next: 5, Open: openOf(3, 2)},
		{Next: 5, Open: openOf(1, 4, 3)},
		{Next: 5, Open: openOf(1, 0)},
		{Next: math.MaxUint32, Open: openOf(math.MaxUint32)},
		{Next: 18, Open: openOf(upTo(17)...)},
		{Next: 1000, Open: openOf(upTo(17)...)},
		{Next: 1000, Open: openOf(upTo(255)...)},
	}
}

// P13.1: what may be, and what may not.
func TestMay(t *testing.T) {
	for _, a := range goodAsks() {
		if !a.May() {
			t.Errorf("%v may be", a)
		}
	}
	for _, a := range append(badAsks(), resume.Ask{Next: 1000, Open: openOf(upTo(256)...)}, resume.Ask{Next: 1000, Open: openOf(upTo(272)...)}) {
		if a.May() {
			t.Errorf("%v may not be", a)
		}
	}
}

// P13.1: what is had of an id says nothing of whether it may be.
func TestMayWhateverIsHad(t *testing.T) {
	for _, h := range []resume.Have{{}, {Out: math.MaxUint32}, {Err: math.MaxUint32}, {Status: true}} {
		h.Id = 1
		if !(resume.Ask{Next: 2, Open: []resume.Have{h}}).May() {
			t.Errorf("%v may be had", h)
		}
	}
}
