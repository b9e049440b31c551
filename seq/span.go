package seq

// Span are the numbers from From on, up to To, but not To itself.
type Span struct{ From, To uint32 }

// Len tells how many numbers it has.
func (s Span) Len() int {
	if s.To <= s.From {
		return 0
	}
	return int(s.To - s.From)
}

// Has tells whether n is one of them.
func (s Span) Has(n uint32) bool {
	return s.From <= n && n < s.To
}

// All tells all of them, rising.
func (s Span) All() func(yield func(n uint32) bool) {
	return func(yield func(n uint32) bool) {
		for n := s.From; n < s.To; n++ { // To is never passed, so no number goes round
			if !yield(n) {
				return
			}
		}
	}
}

// Missing tells those of them that are not had, rising; have is asked only when the range comes to a number.
func (s Span) Missing(have func(n uint32) bool) func(yield func(n uint32) bool) {
	return func(yield func(n uint32) bool) {
		for n := range s.All() {
			if !had(have, n) && !yield(n) {
				return
			}
		}
	}
}

// had asks have of n. A have that is not there, or that panics, has not told that n is had.
func had(have func(n uint32) bool, n uint32) (is bool) {
	defer func() { recover() }()
	return have(n)
}
