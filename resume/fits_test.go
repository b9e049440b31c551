package resume_test

import (
	"math"
	"testing"

	"longwire/api"
	"longwire/resume"
)

func wantFits(t *testing.T, a resume.Ask, last uint32, want api.Errno) {
	t.Helper()
	if e := a.Fits(last); e != want {
		t.Errorf("%v fits %d: %d, want %d", a, last, e, want)
	}
}

// fits tells it from the words of the chapter alone; it goes through all ids, so Next is to be small.
func fits(a resume.Ask, last uint32) api.Errno {
	open := map[uint32]bool{}
	for _, h := range a.Open {
		open[h.Id] = true
	}
	if last >= a.Next {
		return api.ErrForm
	}
	for id := last + 1; id < a.Next; id++ {
		if !open[id] {
			return api.ErrNone
		}
	}
	return api.OK
}

// P13.2: the chapter's example.
func TestFitsExample(t *testing.T) {
	wantFits(t, resume.Ask{Next: 6, Open: openOf(2, 4, 5)}, 4, api.OK)
}

// P13.2: all that may be told with a small Next, and all last ids.
func TestFitsAll(t *testing.T) {
	for next := uint32(1); next <= 7; next++ {
		for which := range 1 << (next - 1) {
			a := resume.Ask{Next: next}
			for id := uint32(1); id < next; id++ {
				if which>>(id-1)&1 == 1 {
					a.Open = append(a.Open, resume.Have{Id: id})
				}
			}
			for last := range next + 3 {
				wantFits(t, a, last, fits(a, last))
			}
		}
	}
}

// P13.2: the errors in their order: what may not be told, then the last id, then an id that is not open.
func TestFitsErrors(t *testing.T) {
	for _, a := range badAsks() {
		for _, last := range []uint32{0, 1, a.Next - 1, a.Next, a.Next + 1, math.MaxUint32} {
			wantFits(t, a, last, api.ErrArg)
		}
	}
	for _, a := range goodAsks() {
		wantFits(t, a, a.Next, api.ErrForm)
		wantFits(t, a, math.MaxUint32, api.ErrForm)
		wantFits(t, a, a.Next-1, api.OK)
	}
}

// P13.2: sixteen that are open fit, seventeen ids that would have to be do not; neither takes long where many are given.
func TestFitsEdges(t *testing.T) {
	sixteen := resume.Ask{Next: 17, Open: openOf(upTo(16)...)}
	wantFits(t, sixteen, 0, api.OK)
	sixteen.Next = 18
	wantFits(t, sixteen, 0, api.ErrNone)
	wantFits(t, sixteen, 16, api.ErrNone)
	wantFits(t, sixteen, 17, api.OK)
	far := resume.Ask{Next: math.MaxUint32, Open: openOf(upTo(16)...)}
	for last := range uint32(20) {
		wantFits(t, far, last, api.ErrNone)
	}
	wantFits(t, far, math.MaxUint32-2, api.ErrNone)
	wantFits(t, far, math.MaxUint32-1, api.OK)
	far.Open = openOf(1, math.MaxUint32-1)
	wantFits(t, far, math.MaxUint32-2, api.OK)
	wantFits(t, far, math.MaxUint32-3, api.ErrNone)
}
