package file

// divisor is x^32 + x^22 + x^2 + x + 1 without x^32, which falls out of the 32 bits.
const divisor = 1<<22 | 1<<2 | 1<<1 | 1

// sumSize is how many bytes a SUM has.
const sumSize = 4

// sum is the SUM of bytes, the highest coefficient in the highest bit.
//
// Bytes come in at the top of what is left, not at its bottom: that is the 32 noughts behind them.
func sum(b []byte) uint32 {
	var left uint32
	for _, c := range b {
		left ^= uint32(c) << 24
		for range 8 {
			left = left<<1 ^ left>>31*divisor
		}
	}
	return left
}

// seal is the SUM of bytes as it stands in a file.
func seal(b []byte) []byte {
	s := sum(b)
	return []byte{byte(s >> 24), byte(s >> 16), byte(s >> 8), byte(s)}
}
