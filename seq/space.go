// Package seq gives the numbers of frames, and tells which of them are had, and which are missing.
package seq

import "longwire/api"

// Space gives numbers, each once. One that New did not make has the limit 0, which New never takes.
type Space struct {
	limit, used uint32
}

// New makes a space that has given nothing.
func New(limit uint32) (*Space, api.Errno) {
	if limit < 1 || limit > api.MaxFrames {
		return nil, api.ErrArg
	}
	return &Space{limit: limit}, api.OK
}

// Next gives the next number.
func (s *Space) Next() (uint32, api.Errno) {
	if s == nil || s.limit == 0 {
		return 0, api.ErrNil
	}
	if s.used == s.limit {
		return 0, api.ErrFull
	}
	n := s.used
	s.used++
	return n, api.OK
}

// Used tells how many numbers were given.
func (s *Space) Used() uint32 {
	if s == nil {
		return 0
	}
	return s.used
}

// Left tells how many numbers are left.
func (s *Space) Left() uint32 {
	if s == nil {
		return 0
	}
	return s.limit - s.used
}
