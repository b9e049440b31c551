package window

import "longwire/seq"

// told goes through the numbers that an ack and a mask tell: of those below the ack only the kept ones, as there may be very many.
func (w *Window) told(ack, mask uint32) func(yield func(n uint32) bool) {
	return func(yield func(n uint32) bool) {
		if ack > w.Next() {
			return
		}
		for _, n := range w.numbers() {
			if n < ack && !yield(n) {
				return
			}
		}
		for n := range seq.Told(ack, mask) {
			if !yield(n) {
				return
			}
		}
	}
}

// Ack drops what an ack and a mask tell, and tells how many that were.
func (w *Window) Ack(ack, mask uint32) int {
	if w.isNone() {
		return 0
	}
	before := len(w.items)
	for n := range w.told(ack, mask) {
		delete(w.items, n)
	}
	return before - len(w.items)
}
