package impl

const (
	// maxWide is the greatest number of bytes that a number is written in.
	maxWide = 4
	// maxAligned is the greatest number that is aligned.
	maxAligned = 1000000
)

// PutNumber returns the bytes of a number in 0..256^wide-1, wide of them, in 1..4, the lowest one first; nil for other arguments.
func PutNumber(n int, wide int) []byte {
	if !fitsWide(n, wide) {
		return nil
	}
	b := make([]byte, wide)
	for i := range b {
		b[i] = byte(n >> (8 * i))
	}
	return b
}

// GetNumber returns the number whose bytes (PutNumber), wide of them, in 1..4, stand from a place on in other bytes; -1 if they are not all there, and for other arguments.
func GetNumber(b []byte, at int, wide int) int {
	// The place is held against len(b)-wide, because at+wide overflows for the greatest places.
	if !wideValid(wide) || at < 0 || at > len(b)-wide {
		return -1
	}
	n := 0
	for i := range wide {
		n |= int(b[at+i]) << (8 * i)
	}
	return n
}

// SignedOf returns a number in 0..256^wide-1, with wide in 1..4, as a signed one: less 256^wide if it is at least half of that; 0 for other arguments.
func SignedOf(n int, wide int) int {
	if !fitsWide(n, wide) {
		return 0
	}
	if n>>(8*wide-1) == 0 {
		return n
	}
	return n - 1<<(8*wide)
}

// AlignUp returns the least multiple of 1, 2, 4 or 8 that is at least a number in 0..1000000; -1 for other arguments.
func AlignUp(n int, to int) int {
	if n < 0 || n > maxAligned || !alignValid(to) {
		return -1
	}
	// The multiples are powers of 2, so that clearing the low bits rounds down.
	return (n + to - 1) &^ (to - 1)
}

// wideValid reports whether numbers are written in so many bytes.
func wideValid(wide int) bool {
	return wide >= 1 && wide <= maxWide
}

// fitsWide reports whether a number can be written in so many bytes.
func fitsWide(n int, wide int) bool {
	return wideValid(wide) && n >= 0 && n>>(8*wide) == 0
}

// alignValid reports whether there are multiples of this number for places.
func alignValid(to int) bool {
	switch to {
	case 1, 2, 4, 8:
		return true
	}
	return false
}
