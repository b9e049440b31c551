package resume_test

import (
	"bytes"
	"encoding/binary"
	"slices"
	"testing"

	"longwire/api"
	"longwire/resume"
)

// formOf tells the form of what is told, made from the words of the chapter alone, whether it may be or not.
func formOf(a resume.Ask) []byte {
	b := append(binary.BigEndian.AppendUint32(nil, a.Next), byte(len(a.Open)))
	for _, h := range a.Open {
		for _, n := range []uint32{h.Id, h.Out, h.Err} {
			b = binary.BigEndian.AppendUint32(b, n)
		}
		had := map[bool]byte{true: 1}[h.Status]
		b = append(b, had)
	}
	return b
}

func same(a, b resume.Ask) bool {
	return a.Next == b.Next && slices.Equal(a.Open, b.Open)
}

// wantParsed asks that b is the form of a.
func wantParsed(t *testing.T, b []byte, a resume.Ask) {
	t.Helper()
	if got, e := resume.Parse(b); e != api.OK || !same(got, a) {
		t.Errorf("%x is %v, %d, want %v, OK", b, got, e, a)
	}
}

// wantNoForm asks that b is refused, and that nothing else is answered.
func wantNoForm(t *testing.T, name string, b []byte, want api.Errno) {
	t.Helper()
	if got, e := resume.Parse(b); e != want || got.Next != 0 || len(got.Open) != 0 {
		t.Errorf("%s: %x is %v, %d, want nothing, %d", name, b, got, e, want)
	}
}

// P13.1: a form, byte by byte.
func TestForm(t *testing.T) {
	a := resume.Ask{Next: 0x01020304, Open: []resume.Have{{Id: 5, Out: 0x11121314, Err: 0x21222324, Status: true}, {Id: 7}}}
	want := []byte{
		1, 2, 3, 4, 2,
		0, 0, 0, 5, 0x11, 0x12, 0x13, 0x14, 0x21, 0x22, 0x23, 0x24, 1,
		0, 0, 0, 7, 0, 0, 0, 0, 0, 0, 0, 0, 0,
	}
	if b, e := a.Bytes(); e != api.OK || !bytes.Equal(b, want) {
		t.Errorf("%x, %d, want %x, OK", b, e, want)
	}
}

// P13.1, P13.5: what may be told has its form, of at most 213 bytes, and is read of it.
func TestThereAndBack(t *testing.T) {
	for _, a := range goodAsks() {
		b, e := a.Bytes()
		if e != api.OK || !bytes.Equal(b, formOf(a)) {
			t.Errorf("%v is %x, %d, want %x, OK", a, b, e, formOf(a))
		}
		if len(b) > 213 || len(b) != 5+13*len(a.Open) {
			t.Errorf("%v has %d bytes", a, len(b))
		}
		wantParsed(t, b, a)
	}
}

// P13.1: what may not be told has no form, and its form tells nothing.
func TestFormOfWhatMayNotBe(t *testing.T) {
	for _, a := range badAsks() {
		if b, e := a.Bytes(); len(b) != 0 || e != api.ErrArg {
			t.Errorf("%v is %x, %d, want nothing, ErrArg", a, b, e)
		}
		wantNoForm(t, "may not be", formOf(a), api.ErrForm)
	}
	for _, many := range []uint32{256, 257, 272} {
		if b, e := (resume.Ask{Next: 1000, Open: openOf(upTo(many)...)}).Bytes(); len(b) != 0 || e != api.ErrArg {
			t.Errorf("%d open: %x, %d, want nothing, ErrArg", many, b, e)
		}
	}
}

// P13.1: cut short somewhere it is not all there, whatever else is wrong.
func TestFormCutShort(t *testing.T) {
	wantNoForm(t, "nil", nil, api.ErrShort)
	for _, a := range append(goodAsks(), badAsks()...) {
		b := formOf(a)
		for many := range b {
			wantNoForm(t, "cut", b[:many], api.ErrShort)
		}
	}
	b := formOf(resume.Ask{Next: 6, Open: openOf(2, 4)})
	b[4] = 3
	wantNoForm(t, "one more is said to be open", b, api.ErrShort)
	b[17] = 9
	wantNoForm(t, "and a status is none", b, api.ErrShort)
	wantNoForm(t, "255 are said to be open", []byte{0, 0, 1, 0, 255, 0}, api.ErrShort)
}

// P13.1: bytes that are left.
func TestFormWithMore(t *testing.T) {
	for _, a := range goodAsks() {
		for more := range 256 {
			wantNoForm(t, "a byte more", append(formOf(a), byte(more)), api.ErrForm)
		}
		wantNoForm(t, "many more", append(formOf(a), make([]byte, 1000)...), api.ErrForm)
	}
}

// P13.1: a status is 0 or 1.
func TestFormStatus(t *testing.T) {
	a := resume.Ask{Next: 9, Open: openOf(3, 5, 8)}
	for place := range a.Open {
		for status := range 256 {
			b := formOf(a)
			b[5+13*place+12] = byte(status)
			if status > 1 {
				wantNoForm(t, "a status that is none", b, api.ErrForm)
				continue
			}
			told := resume.Ask{Next: 9, Open: openOf(3, 5, 8)}
			told.Open[place].Status = status == 1
			wantParsed(t, b, told)
		}
	}
}

// R3: what is handed in stays, and what is told, changed, changes nothing.
func TestFormsLiveApart(t *testing.T) {
	a := resume.Ask{Next: 9, Open: openOf(3, 5, 8)}
	b, _ := a.Bytes()
	was := bytes.Clone(b)
	clear(a.Open)
	if !bytes.Equal(b, was) {
		t.Error("the form is changed with what was handed in")
	}
	told, _ := resume.Parse(b)
	clear(b)
	wantParsed(t, was, told)
	told.Open[0].Id = 1
	wantParsed(t, was, resume.Ask{Next: 9, Open: openOf(3, 5, 8)})
}
