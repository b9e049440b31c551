package intake

import (
	"math"
	"slices"
	"testing"

	"longwire/api"
)

// P7.1: what is handed on is gone through from the floor on, and stops where its range stops: what was told is kept no more, the rest is.
func TestReady(t *testing.T) {
	want := []string{"", "a", "", "b"}
	for stop := range want {
		i := New()
		i.floor = 40
		for k, p := range want {
			i.ahead[40+uint32(k)] = kept{p}
		}
		i.ahead[45] = kept{"behind a gap"}
		var got []string
		for p := range i.ready() {
			got = append(got, p)
			if len(got) == stop+1 {
				break
			}
		}
		if !slices.Equal(got, want[:stop+1]) || i.Floor() != 41+uint32(stop) || i.Waits() != 4-stop {
			t.Errorf("stopped at %d: %q, floor %d, %d kept", stop, got, i.Floor(), i.Waits())
		}
		for range i.ready() {
		}
		if i.Floor() != 44 || i.Waits() != 1 {
			t.Errorf("behind all: floor %d, %d kept", i.Floor(), i.Waits())
		}
	}
	for p := range New().ready() {
		t.Errorf("of an empty one %q is ready", p)
	}
}

// P7.1, P7.2: near the highest number no number goes round: there is none that is far, and low ones are below the floor.
func TestNearTheHighestNumber(t *testing.T) {
	for below := range uint32(20) {
		i := New()
		i.floor = math.MaxUint32 - below
		for n := range uint32(40) {
			if _, fate, e := i.Take(n, nil); fate != Again || e != api.OK {
				t.Errorf("floor %d: the fate of %d is %d, %d", i.floor, n, fate, e)
			}
		}
		wantMask := uint32(0)
		for k := uint32(1); k <= below; k++ {
			want := Taken
			if k > 15 {
				want = Far
			} else {
				wantMask |= 1 << (k - 1)
			}
			if _, fate, e := i.Take(i.floor+k, []byte{byte(k)}); fate != want || e != api.OK {
				t.Errorf("floor %d: the fate of %d more is %d, %d", i.floor, k, fate, e)
			}
		}
		if ack, mask := i.Told(); ack != math.MaxUint32-below || mask != wantMask || i.Waits() != int(min(below, 15)) {
			t.Errorf("told %d, %x, want mask %x; %d kept", ack, mask, wantMask, i.Waits())
		}
	}
}
