package isa

// intBytes is how many bytes an int holds: what stands above them is lost, or the sign.
const intBytes = 8

// Signed answers n's lowest 32 bits, below 0 if the highest one is 1.
func Signed(n int) int {
	return int(int32(n))
}

// Get answers the number of size bytes from at on, the uppermost one first; those that are not in b are 0.
func Get(b []byte, at, size int) int {
	n := 0
	// Bytes ahead of the last eight would be moved out of n: leaving them out keeps the call short, whatever size is.
	for k := max(size, intBytes) - intBytes; k < size; k++ {
		n <<= 8
		// Where at+k wraps round it is below 0, and so not in b either.
		if p := at + k; p >= 0 && p < len(b) {
			n |= int(b[p])
		}
	}
	return n
}

// Put answers a copy of b, in which the size bytes from at on, as far as there are such, are n's lowest bits, the uppermost one first.
func Put(b []byte, at, size, n int) []byte {
	out := make([]byte, len(b))
	copy(out, b)
	for p := range out {
		// Where p-at wraps round it is below 0: so far behind at no size reaches.
		if k := p - at; k >= 0 && k < size {
			out[p] = byte(n >> (8 * min(size-1-k, intBytes)))
		}
	}
	return out
}
