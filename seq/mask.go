package seq

// maskBits is how many numbers behind an ack a mask has a bit for.
const maskBits = 32

// behind tells the numbers behind an ack that a mask can tell, rising, each with its bit.
func behind(ack uint32) func(yield func(n, bit uint32) bool) {
	return func(yield func(n, bit uint32) bool) {
		n := ack
		for k := range maskBits {
			n++
			if n == 0 { // there are none above the highest number: it does not go round
				return
			}
			if !yield(n, 1<<k) {
				return
			}
		}
	}
}

// Mask tells the mask of an ack, of those that are had.
func Mask(ack uint32, have func(n uint32) bool) uint32 {
	mask := uint32(0)
	for n, bit := range behind(ack) {
		if had(have, n) {
			mask |= bit
		}
	}
	return mask
}

// Told tells the numbers that a mask tells of an ack, rising.
func Told(ack, mask uint32) func(yield func(n uint32) bool) {
	return func(yield func(n uint32) bool) {
		for n, bit := range behind(ack) {
			if mask&bit != 0 && !yield(n) {
				return
			}
		}
	}
}
