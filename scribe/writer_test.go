package scribe_test

import (
	"bytes"
	"strings"
	"testing"

	"longwire/api"
	"longwire/scribe"
)

// done tells what a writer has, which must be OK.
func done(t *testing.T, w *scribe.Writer) []byte {
	t.Helper()
	b, e := w.Done()
	if e != api.OK {
		t.Fatalf("Done: %d, want OK", e)
	}
	return b
}

// wantBytes holds what a writer has against bytes.
func wantBytes(t *testing.T, w *scribe.Writer, want ...byte) {
	t.Helper()
	if got := done(t, w); !bytes.Equal(got, want) {
		t.Errorf("Done: % x, want % x", got, want)
	}
}

// wantLong asks that a writer has an ErrLong, and nothing.
func wantLong(t *testing.T, w *scribe.Writer) {
	t.Helper()
	if b, e := w.Done(); e != api.ErrLong || len(b) != 0 {
		t.Errorf("Done: %d bytes, %d, want none, ErrLong", len(b), e)
	}
}

// P1.1: each call lays what it is given, the highest byte first.
func TestWriterLays(t *testing.T) {
	lay := func(do func(w *scribe.Writer)) *scribe.Writer {
		var w scribe.Writer
		do(&w)
		return &w
	}
	wantBytes(t, lay(func(w *scribe.Writer) {}))
	wantBytes(t, lay(func(w *scribe.Writer) { w.Byte() }))
	wantBytes(t, lay(func(w *scribe.Writer) { w.Byte(0) }), 0)
	wantBytes(t, lay(func(w *scribe.Writer) { w.Byte(3, 0, 255) }), 3, 0, 255)
	wantBytes(t, lay(func(w *scribe.Writer) { w.Byte([]byte(nil)...) }))
	wantBytes(t, lay(func(w *scribe.Writer) { w.Two(0) }), 0, 0)
	wantBytes(t, lay(func(w *scribe.Writer) { w.Two(0xfffe) }), 0xff, 0xfe)
	wantBytes(t, lay(func(w *scribe.Writer) { w.Four(0x01020304) }), 1, 2, 3, 4)
	wantBytes(t, lay(func(w *scribe.Writer) { w.Four(0xfffefdfc) }), 0xff, 0xfe, 0xfd, 0xfc)
	wantBytes(t, lay(func(w *scribe.Writer) { w.Eight(0x0102030405060708) }), 1, 2, 3, 4, 5, 6, 7, 8)
	wantBytes(t, lay(func(w *scribe.Writer) { w.Eight(0xfffefdfcfbfaf9f8) }), 0xff, 0xfe, 0xfd, 0xfc, 0xfb, 0xfa, 0xf9, 0xf8)
	wantBytes(t, lay(func(w *scribe.Writer) { w.Text("") }), 0, 0)
	wantBytes(t, lay(func(w *scribe.Writer) { w.Text("\xff\x00") }), 0, 2, 0xff, 0)
	wantBytes(t, lay(func(w *scribe.Writer) { w.Two(513).Text("ab") }), 2, 1, 0, 2, 'a', 'b')
}

// P1.1: each call tells the writer itself.
func TestWriterTellsItself(t *testing.T) {
	var w scribe.Writer
	for i, got := range []*scribe.Writer{
		w.Byte(), w.Byte(1), w.Two(2), w.Four(3), w.Eight(4), w.Text("5"),
		w.Text(strings.Repeat("x", 65536)), w.Byte(1), w.Two(2), w.Four(3), w.Eight(4), w.Text("5"),
	} {
		if got != &w {
			t.Errorf("call %d tells another writer", i)
		}
	}
}

// P1.1: of no writer each call tells a new one.
func TestNoWriter(t *testing.T) {
	var none *scribe.Writer
	wantBytes(t, none)
	wantBytes(t, none.Byte())
	wantBytes(t, none.Byte(9), 9)
	wantBytes(t, none.Two(9), 0, 9)
	wantBytes(t, none.Four(9), 0, 0, 0, 9)
	wantBytes(t, none.Eight(9), 0, 0, 0, 0, 0, 0, 0, 9)
	wantBytes(t, none.Text("a"), 0, 1, 'a')
	wantLong(t, none.Text(strings.Repeat("x", 65536)))
	for i, got := range []*scribe.Writer{none.Byte(), none.Byte(1), none.Two(1), none.Four(1), none.Eight(1), none.Text("")} {
		if got == nil {
			t.Errorf("call %d tells no writer", i)
		}
	}
	if none.Byte(1) == none.Byte(1) {
		t.Error("the same writer twice")
	}
}

// P1.1: a text of 65535 bytes is laid.
func TestLongestText(t *testing.T) {
	var w scribe.Writer
	got := done(t, w.Byte(7).Text(strings.Repeat("x", 65535)).Byte(8))
	want := append(append([]byte{7, 255, 255}, bytes.Repeat([]byte{'x'}, 65535)...), 8)
	if !bytes.Equal(got, want) {
		t.Errorf("%d bytes, want %d", len(got), len(want))
	}
}

// P1.1: a text of 65536 bytes is an error that stays, and nothing more is laid.
func TestTextTooLong(t *testing.T) {
	for _, many := range []int{65536, 65537, 1 << 17} {
		var w scribe.Writer
		w.Byte(1).Text(strings.Repeat("x", many))
		wantLong(t, &w)
		wantLong(t, &w)
		wantLong(t, w.Byte(2).Two(3).Four(4).Eight(5).Text("6"))
		wantLong(t, w.Text(strings.Repeat("x", many)))
	}
}

// P1.1: the writer goes on behind what Done told.
func TestGoesOnBehindDone(t *testing.T) {
	var w scribe.Writer
	wantBytes(t, &w)
	wantBytes(t, w.Byte(1), 1)
	wantBytes(t, &w, 1)
	wantBytes(t, w.Two(2), 1, 0, 2)
	wantBytes(t, w.Text("a"), 1, 0, 2, 0, 1, 'a')
	wantLong(t, w.Text(strings.Repeat("x", 65536)))
}

// R3: what is handed in is not kept, and what is told is new memory.
func TestWriterSharesNothing(t *testing.T) {
	var w scribe.Writer
	given := []byte{1, 2, 3}
	w.Byte(given...)
	given[0] = 99
	first := done(t, &w)
	first[1] = 99
	_ = append(first[:0], 50, 51, 52, 53, 54)
	wantBytes(t, w.Byte(4), 1, 2, 3, 4)
	if !bytes.Equal(given, []byte{99, 2, 3}) {
		t.Error("what was given is changed")
	}
}

// R7: copies of a writer go on apart, however much room the first one has.
func TestCopiedWriters(t *testing.T) {
	for many := range 20 {
		var w scribe.Writer
		ahead := bytes.Repeat([]byte{7}, many)
		for range many {
			w.Byte(7)
		}
		kept, other := w, w
		w.Byte(1)
		other.Byte(2, 3)
		wantBytes(t, &w, append(bytes.Clone(ahead), 1)...)
		wantBytes(t, &other, append(bytes.Clone(ahead), 2, 3)...)
		wantBytes(t, &kept, ahead...)
		later := w
		w = kept
		w.Byte(4)
		wantBytes(t, &later, append(bytes.Clone(ahead), 1)...)
		wantBytes(t, &w, append(bytes.Clone(ahead), 4)...)
	}
}

// P1.1: very many pieces are laid as well.
func TestManyPieces(t *testing.T) {
	var w scribe.Writer
	for i := range 100000 {
		w.Byte(byte(i))
	}
	b := done(t, &w)
	if len(b) != 100000 {
		t.Fatal(len(b))
	}
	for i, c := range b {
		if c != byte(i) {
			t.Fatalf("byte %d is %d", i, c)
		}
	}
}
