package scribe

// polynomial is that of IEEE 802.3, its bits from the lowest power to the highest.
const polynomial = 0xedb88320

// Crc tells the check of b.
func Crc(b []byte) uint32 {
	register := ^uint32(0)
	for _, c := range b {
		register = turn(register ^ uint32(c))
	}
	return ^register
}

// turn lets the lowest eight bits of the register fall out.
func turn(register uint32) uint32 {
	for range 8 {
		fallen := register & 1
		register >>= 1
		if fallen == 1 {
			register ^= polynomial
		}
	}
	return register
}
