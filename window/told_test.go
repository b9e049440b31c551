package window

import (
	"slices"
	"testing"
)

// P6.2: what is told is gone through by rising numbers, of those below the ack just the kept ones, and stops where its range stops.
func TestTold(t *testing.T) {
	w, _ := New(1<<31, 10, 30)
	for range 10 {
		w.Put(nil, 0)
	}
	w.Ack(2, 0b10) // 0, 1, 4
	want := []uint32{2, 3, 5, 6, 8, 11, 39}
	for stop := range want {
		var got []uint32
		for n := range w.told(7, 1<<31|0b1001) {
			got = append(got, n)
			if len(got) == stop+1 {
				break
			}
		}
		if !slices.Equal(got, want[:stop+1]) {
			t.Errorf("stopped at %d: told %d, want %d", stop, got, want[:stop+1])
		}
	}
	for n := range w.told(11, 1<<31|0b1001) {
		t.Errorf("an ack above the next number tells %d", n)
	}
}
