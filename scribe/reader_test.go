package scribe_test

import (
	"bytes"
	"math"
	"strings"
	"testing"

	"longwire/api"
	"longwire/scribe"
)

// wantState holds a reader's Left and Err against what they must be.
func wantState(t *testing.T, r *scribe.Reader, left int, e api.Errno) {
	t.Helper()
	if r.Left() != left || r.Err() != e {
		t.Errorf("Left %d, Err %d, want %d, %d", r.Left(), r.Err(), left, e)
	}
}

// wantNothing asks that all that is read is 0, or nothing, with an ErrShort.
func wantNothing(t *testing.T, r *scribe.Reader) {
	t.Helper()
	wantState(t, r, 0, api.ErrShort)
	if r.Byte() != 0 || r.Two() != 0 || r.Four() != 0 || r.Eight() != 0 || r.Text() != "" {
		t.Error("something is read behind an error")
	}
	if len(r.Take(-1)) != 0 || len(r.Take(0)) != 0 || len(r.Take(1)) != 0 || len(r.Rest()) != 0 {
		t.Error("something is taken behind an error")
	}
	wantState(t, r, 0, api.ErrShort)
}

// P1.2: each call tells what stands at the front.
func TestReaderReads(t *testing.T) {
	r := scribe.New([]byte{0xff, 0xfe, 0xfd, 1, 2, 3, 4, 0xf1, 2, 3, 4, 5, 6, 7, 8, 0, 2, 'a', 0xff, 0, 0, 9, 10, 11, 12})
	wantState(t, r, 25, api.OK)
	if got := r.Byte(); got != 0xff {
		t.Errorf("Byte: %x", got)
	}
	wantState(t, r, 24, api.OK)
	if got := r.Two(); got != 0xfefd {
		t.Errorf("Two: %x", got)
	}
	wantState(t, r, 22, api.OK)
	if got := r.Four(); got != 0x01020304 {
		t.Errorf("Four: %x", got)
	}
	wantState(t, r, 18, api.OK)
	if got := r.Eight(); got != 0xf102030405060708 {
		t.Errorf("Eight: %x", got)
	}
	wantState(t, r, 10, api.OK)
	if got := r.Text(); got != "a\xff" {
		t.Errorf("Text: %q", got)
	}
	if got := r.Text(); got != "" {
		t.Errorf("Text: %q", got)
	}
	wantState(t, r, 4, api.OK)
	if got := r.Take(1); !bytes.Equal(got, []byte{9}) {
		t.Errorf("Take: % x", got)
	}
	if got := r.Rest(); !bytes.Equal(got, []byte{10, 11, 12}) {
		t.Errorf("Rest: % x", got)
	}
	wantState(t, r, 0, api.OK)
	if got := r.Rest(); len(got) != 0 {
		t.Errorf("Rest: % x", got)
	}
	wantState(t, r, 0, api.OK)
}

// P1.2: Take of below 0, of 0, of all, and of more than is left.
func TestTake(t *testing.T) {
	r := scribe.New([]byte{1, 2, 3})
	for _, n := range []int{0, -1, math.MinInt} {
		if got := r.Take(n); len(got) != 0 {
			t.Errorf("Take(%d): % x", n, got)
		}
		wantState(t, r, 3, api.OK)
	}
	if got := r.Take(3); !bytes.Equal(got, []byte{1, 2, 3}) {
		t.Errorf("Take(3): % x", got)
	}
	wantState(t, r, 0, api.OK)
	for _, n := range []int{0, -1} {
		if got := r.Take(n); len(got) != 0 {
			t.Errorf("Take(%d) at the end: % x", n, got)
		}
		wantState(t, r, 0, api.OK)
	}
	for _, n := range []int{4, 5, math.MaxInt} {
		r := scribe.New([]byte{1, 2, 3})
		if got := r.Take(n); len(got) != 0 {
			t.Errorf("Take(%d): % x", n, got)
		}
		wantNothing(t, r)
	}
}

// P1.2: what is not all there is an ErrShort that stays, and nothing is left.
func TestShort(t *testing.T) {
	calls := []struct {
		need int
		do   func(r *scribe.Reader) bool // whether something was told
	}{
		{1, func(r *scribe.Reader) bool { return r.Byte() != 0 }},
		{2, func(r *scribe.Reader) bool { return r.Two() != 0 }},
		{4, func(r *scribe.Reader) bool { return r.Four() != 0 }},
		{8, func(r *scribe.Reader) bool { return r.Eight() != 0 }},
		{9, func(r *scribe.Reader) bool { return len(r.Take(9)) != 0 }},
		{257 + 2, func(r *scribe.Reader) bool { return r.Text() != "" }},
	}
	for i, c := range calls {
		for many := range c.need {
			r := scribe.New(bytes.Repeat([]byte{1}, many))
			if c.do(r) {
				t.Errorf("call %d of %d bytes tells something", i, many)
			}
			wantNothing(t, r)
		}
		r := scribe.New(bytes.Repeat([]byte{1}, c.need))
		if !c.do(r) {
			t.Errorf("call %d of %d bytes tells nothing", i, c.need)
		}
		wantState(t, r, 0, api.OK)
	}
}

// P1.2: a text cut within its length, or within its bytes, leaves nothing.
func TestTextCut(t *testing.T) {
	for _, b := range [][]byte{{}, {0}, {5}, {0, 1}, {0, 5, 'a', 'b'}, {0, 3, 'a', 'b'}, {255, 255, 'a'}} {
		r := scribe.New(b)
		if got := r.Text(); got != "" {
			t.Errorf("Text of % x: %q", b, got)
		}
		wantNothing(t, r)
	}
	r := scribe.New([]byte{0, 0})
	if r.Text() != "" {
		t.Error("a text of none")
	}
	wantState(t, r, 0, api.OK)
}

// P1.2: the longest text is read.
func TestLongestTextRead(t *testing.T) {
	long := strings.Repeat("x", 65534) + "y"
	r := scribe.New(append([]byte{255, 255}, (long + "z")...))
	if r.Text() != long {
		t.Error("another text")
	}
	if got := r.Rest(); string(got) != "z" {
		t.Errorf("Rest: %q", got)
	}
	wantState(t, r, 0, api.OK)
}

// P1.2: of nothing at all there is nothing, and that is no error till something is asked.
func TestReaderOfNothing(t *testing.T) {
	for _, b := range [][]byte{nil, {}} {
		r := scribe.New(b)
		wantState(t, r, 0, api.OK)
		if len(r.Rest()) != 0 || len(r.Take(0)) != 0 {
			t.Error("something")
		}
		wantState(t, r, 0, api.OK)
		if r.Byte() != 0 {
			t.Error("a byte")
		}
		wantNothing(t, r)
	}
}

// P1.2: of no reader there is ErrShort, 0, nothing.
func TestNoReader(t *testing.T) {
	var none *scribe.Reader
	wantNothing(t, none)
}

// R3: what is handed in is not kept, and what is told is new memory.
func TestReaderSharesNothing(t *testing.T) {
	given := []byte{1, 2, 3, 4, 5, 6}
	r := scribe.New(given)
	given[1] = 99
	first := r.Take(2)
	if !bytes.Equal(first, []byte{1, 2}) {
		t.Errorf("Take: % x", first)
	}
	_ = append(first, 50, 51, 52, 53)
	second := r.Take(2)
	if !bytes.Equal(second, []byte{3, 4}) {
		t.Errorf("Take: % x", second)
	}
	_ = append(second, 50, 51)
	rest := r.Rest()
	if !bytes.Equal(rest, []byte{5, 6}) {
		t.Errorf("Rest: % x", rest)
	}
	rest[0] = 77
	if !bytes.Equal(given, []byte{1, 99, 3, 4, 5, 6}) || !bytes.Equal(second, []byte{3, 4}) {
		t.Error("something is shared")
	}
}
