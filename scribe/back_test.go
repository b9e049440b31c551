package scribe_test

import (
	"bytes"
	"strings"
	"testing"

	"longwire/api"
	"longwire/scribe"
)

// step is something laid, and how it is read again.
type step struct {
	lay  func(w *scribe.Writer)
	same func(r *scribe.Reader) bool
	none func(r *scribe.Reader) bool
}

func byteStep(b byte) step {
	return step{
		func(w *scribe.Writer) { w.Byte(b) },
		func(r *scribe.Reader) bool { return r.Byte() == b },
		func(r *scribe.Reader) bool { return r.Byte() == 0 },
	}
}

func twoStep(n uint16) step {
	return step{
		func(w *scribe.Writer) { w.Two(n) },
		func(r *scribe.Reader) bool { return r.Two() == n },
		func(r *scribe.Reader) bool { return r.Two() == 0 },
	}
}

func fourStep(n uint32) step {
	return step{
		func(w *scribe.Writer) { w.Four(n) },
		func(r *scribe.Reader) bool { return r.Four() == n },
		func(r *scribe.Reader) bool { return r.Four() == 0 },
	}
}

func eightStep(n uint64) step {
	return step{
		func(w *scribe.Writer) { w.Eight(n) },
		func(r *scribe.Reader) bool { return r.Eight() == n },
		func(r *scribe.Reader) bool { return r.Eight() == 0 },
	}
}

func textStep(s string) step {
	return step{
		func(w *scribe.Writer) { w.Text(s) },
		func(r *scribe.Reader) bool { return r.Text() == s },
		func(r *scribe.Reader) bool { return r.Text() == "" },
	}
}

func bytesStep(b ...byte) step {
	return step{
		func(w *scribe.Writer) { w.Byte(b...) },
		func(r *scribe.Reader) bool { return bytes.Equal(r.Take(len(b)), b) },
		func(r *scribe.Reader) bool { return len(r.Take(len(b))) == 0 },
	}
}

// laid lays steps, and tells where each one ends.
func laid(t *testing.T, l []step) (all []byte, ends []int) {
	t.Helper()
	var w scribe.Writer
	for _, s := range l {
		s.lay(&w)
		ends = append(ends, len(done(t, &w)))
	}
	return done(t, &w), ends
}

// P1.4: what was laid is read by the same calls; of what is cut short the steps ahead of the cut are read, and no others.
func TestThereAndBack(t *testing.T) {
	for _, l := range [][]step{
		{},
		{byteStep(200), twoStep(65535), fourStep(1 << 31), eightStep(1 << 63), textStep("hi"), bytesStep(4, 5, 6)},
		{textStep(""), textStep("\x00\xff"), textStep(""), byteStep(1)},
		{eightStep(0xfedcba9876543210), fourStep(0x89abcdef), twoStep(0xfedc), byteStep(0x80), textStep(strings.Repeat("ab", 150))},
		{bytesStep(1), textStep("\x00\x05a"), bytesStep(2, 2), textStep("longer than the others")},
	} {
		all, ends := laid(t, l)
		for cut := 0; cut <= len(all); cut++ {
			wantReadBack(t, l, ends, all[:cut])
		}
	}
}

// wantReadBack reads steps of b, which may be cut short.
func wantReadBack(t *testing.T, l []step, ends []int, b []byte) {
	t.Helper()
	r := scribe.New(b)
	for i, s := range l {
		if ends[i] > len(b) {
			if !s.none(r) || r.Err() != api.ErrShort || r.Left() != 0 {
				t.Fatalf("step %d of %d bytes: something behind the cut, Left %d, Err %d", i, len(b), r.Left(), r.Err())
			}
		} else if !s.same(r) || r.Err() != api.OK || r.Left() != len(b)-ends[i] {
			t.Fatalf("step %d of %d bytes: not what was laid, Left %d, Err %d", i, len(b), r.Left(), r.Err())
		}
	}
}
