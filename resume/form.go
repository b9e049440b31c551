package resume

import (
	"longwire/api"
	"longwire/scribe"
)

// Bytes tells the form of what may be told.
func (a Ask) Bytes() ([]byte, api.Errno) {
	if !a.May() {
		return nil, api.ErrArg
	}
	var w scribe.Writer
	w.Four(a.Next).Byte(byte(len(a.Open)))
	for _, h := range a.Open {
		w.Four(h.Id).Four(h.Out).Four(h.Err).Byte(h.status())
	}
	return w.Done()
}

// status tells the byte that says whether the status is had.
func (h Have) status() byte {
	if h.Status {
		return 1
	}
	return 0
}

// Parse tells what was told by its form.
func Parse(b []byte) (Ask, api.Errno) {
	r := scribe.New(b)
	a := Ask{Next: r.Four()}
	said := true // each status is said by 0 or 1
	for range r.Byte() {
		h := Have{Id: r.Four(), Out: r.Four(), Err: r.Four()}
		status := r.Byte()
		h.Status = status == 1
		said = said && status <= 1
		a.Open = append(a.Open, h)
	}
	switch {
	case r.Err() != api.OK:
		return Ask{}, api.ErrShort
	case r.Left() > 0 || !said || !a.May():
		return Ask{}, api.ErrForm
	}
	return a, api.OK
}
