package tests

import (
	"bytes"
	"math"
	"testing"

	"loop.example/objectlinker/impl"
)

// powers are 256^wide for the widths 0..4.
var powers = [5]int{1, 1 << 8, 1 << 16, 1 << 24, 1 << 32}

// wrongWides are widths that no number has.
var wrongWides = []int{math.MinInt, -8, -1, 0, 5, 6, 8, 9, 64, math.MaxInt}

// numbersOf returns numbers of a width: the ends, what is around the bytes and the half, and some between.
func numbersOf(wide int) []int {
	top := powers[wide] - 1
	list := []int{0, 1, 2, 127, 128, 200, 254, 255, top / 3, top / 2, top/2 + 1, top/2 + 2, top - 1, top}
	for k := 1; k < wide; k++ {
		list = append(list, powers[k]-1, powers[k], powers[k]+1, powers[k]/2, 0xA5*powers[k])
	}
	for n := 1; n < top; n = n*3 + 7 {
		list = append(list, n)
	}
	return list
}

// numbersPast returns numbers that have not so many bytes.
func numbersPast(wide int) []int {
	top := powers[wide]
	return []int{math.MinInt, -top, -top / 2, -2, -1, top, top + 1, 2 * top, top << 8, 1 << 40, 1 << 62, math.MaxInt - 1, math.MaxInt}
}

// bytesOf returns the bytes of a number by division, the lowest one first.
func bytesOf(n int, wide int) []byte {
	var b []byte
	for range wide {
		b = append(b, byte(n%256))
		n /= 256
	}
	return b
}

// someBytes returns bytes that are all different from their neighbours, with both ends among them.
func someBytes() []byte {
	return []byte{9, 0, 255, 1, 128, 127, 0, 0, 255, 255, 17, 200, 3}
}

func TestPutNumberWritesTheLowestByteFirst(t *testing.T) {
	for wide := 1; wide <= 4; wide++ {
		for _, n := range numbersOf(wide) {
			if x := impl.PutNumber(n, wide); !bytes.Equal(x, bytesOf(n, wide)) {
				t.Errorf("PutNumber(%d, %d) = %v", n, wide, x)
			}
		}
	}
	if x := impl.PutNumber(0x04030201, 4); !bytes.Equal(x, []byte{1, 2, 3, 4}) {
		t.Errorf("PutNumber(0x04030201, 4) = %v", x)
	}
}

func TestPutNumberRefusesOtherArguments(t *testing.T) {
	for wide := 1; wide <= 4; wide++ {
		for _, n := range numbersPast(wide) {
			if x := impl.PutNumber(n, wide); len(x) != 0 {
				t.Errorf("PutNumber(%d, %d) = %v", n, wide, x)
			}
		}
	}
	for _, wide := range wrongWides {
		for _, n := range []int{math.MinInt, -1, 0, 1, 255, 256, math.MaxInt} {
			if x := impl.PutNumber(n, wide); len(x) != 0 {
				t.Errorf("PutNumber(%d, %d) = %v", n, wide, x)
			}
		}
	}
}

func TestPutNumberReturnsNewBytes(t *testing.T) {
	a, b := impl.PutNumber(513, 3), impl.PutNumber(513, 3)
	for i := range a {
		a[i] = 77
	}
	if !bytes.Equal(b, []byte{1, 2, 0}) || !bytes.Equal(impl.PutNumber(513, 3), []byte{1, 2, 0}) {
		t.Errorf("results share memory: %v", b)
	}
}

func TestGetNumberReadsTheLowestByteFirst(t *testing.T) {
	b := someBytes()
	for wide := 1; wide <= 4; wide++ {
		for at := 0; at+wide <= len(b); at++ {
			want := 0
			for i := wide - 1; i >= 0; i-- {
				want = want*256 + int(b[at+i])
			}
			if x := impl.GetNumber(b, at, wide); x != want {
				t.Errorf("GetNumber(%v, %d, %d) = %d, not %d", b, at, wide, x, want)
			}
		}
	}
	if x := impl.GetNumber([]byte{255, 255, 255, 255}, 0, 4); x != 4294967295 {
		t.Errorf("the greatest number is read as %d", x)
	}
	if !bytes.Equal(b, someBytes()) {
		t.Errorf("GetNumber changed its bytes to %v", b)
	}
}

func TestGetNumberRefusesOtherPlaces(t *testing.T) {
	for size := 0; size <= 6; size++ {
		// The bytes past the length must not be read, though they are there.
		b := someBytes()[:size]
		for wide := 1; wide <= 4; wide++ {
			places := []int{math.MinInt, math.MinInt + 1, -5, -4, -2, -1, size, size + 1, math.MaxInt - 4, math.MaxInt - 1, math.MaxInt}
			for at := max(size-wide+1, 0); at <= size; at++ {
				places = append(places, at)
			}
			for _, at := range places {
				if x := impl.GetNumber(b, at, wide); x != -1 {
					t.Errorf("GetNumber(%v, %d, %d) = %d", b, at, wide, x)
				}
			}
		}
	}
	if x := impl.GetNumber(nil, 0, 1); x != -1 {
		t.Errorf("GetNumber(nil, 0, 1) = %d", x)
	}
}

func TestGetNumberRefusesOtherWidths(t *testing.T) {
	for _, b := range [][]byte{nil, {}, {1}, someBytes()} {
		for _, wide := range wrongWides {
			for _, at := range []int{math.MinInt, -1, 0, 1, len(b), math.MaxInt} {
				if x := impl.GetNumber(b, at, wide); x != -1 {
					t.Errorf("GetNumber(%v, %d, %d) = %d", b, at, wide, x)
				}
			}
		}
	}
}

// Promise 27: bytes of numbers can be read.
func TestPromise27(t *testing.T) {
	for wide := 1; wide <= 4; wide++ {
		for _, n := range numbersOf(wide) {
			b := impl.PutNumber(n, wide)
			if len(b) != wide {
				t.Errorf("PutNumber(%d, %d) has %d bytes", n, wide, len(b))
			}
			if x := impl.GetNumber(b, 0, wide); x != n {
				t.Errorf("%d in %d bytes is read as %d", n, wide, x)
			}
			among := append(append([]byte{7, 255}, b...), 255, 7)
			if x := impl.GetNumber(among, 2, wide); x != n {
				t.Errorf("%d in %d bytes among others is read as %d", n, wide, x)
			}
		}
	}
}

// Promise 28: read numbers have bytes.
func TestPromise28(t *testing.T) {
	b := someBytes()
	for wide := 1; wide <= 4; wide++ {
		for at := 0; at+wide <= len(b); at++ {
			n := impl.GetNumber(b, at, wide)
			if n < 0 || n >= powers[wide] {
				t.Errorf("GetNumber(%v, %d, %d) = %d", b, at, wide, n)
			}
			if x := impl.PutNumber(n, wide); !bytes.Equal(x, b[at:at+wide]) {
				t.Errorf("the bytes %v are written as %v", b[at:at+wide], x)
			}
		}
	}
}

// Promise 29: signed numbers have the same bytes.
func TestPromise29(t *testing.T) {
	for wide := 1; wide <= 4; wide++ {
		many := powers[wide]
		for _, n := range numbersOf(wide) {
			x := impl.SignedOf(n, wide)
			if (n-x)%many != 0 {
				t.Errorf("SignedOf(%d, %d) = %d has other bytes", n, wide, x)
			}
			if x < -many/2 || x >= many/2 {
				t.Errorf("SignedOf(%d, %d) = %d is not nearest to 0", n, wide, x)
			}
		}
	}
}

func TestSignedOfAtTheEnds(t *testing.T) {
	for wide := 1; wide <= 4; wide++ {
		many := powers[wide]
		for n, want := range map[int]int{0: 0, 1: 1, many/2 - 1: many/2 - 1, many / 2: -many / 2, many/2 + 1: 1 - many/2, many - 1: -1} {
			if x := impl.SignedOf(n, wide); x != want {
				t.Errorf("SignedOf(%d, %d) = %d, not %d", n, wide, x, want)
			}
		}
	}
}

func TestSignedOfRefusesOtherArguments(t *testing.T) {
	for wide := 1; wide <= 4; wide++ {
		for _, n := range numbersPast(wide) {
			if x := impl.SignedOf(n, wide); x != 0 {
				t.Errorf("SignedOf(%d, %d) = %d", n, wide, x)
			}
		}
	}
	for _, wide := range wrongWides {
		for _, n := range []int{math.MinInt, -1, 1, 127, 128, 255, 1 << 39, math.MaxInt} {
			if x := impl.SignedOf(n, wide); x != 0 {
				t.Errorf("SignedOf(%d, %d) = %d", n, wide, x)
			}
		}
	}
}

// Promise 30: aligned numbers are multiples.
func TestPromise30(t *testing.T) {
	for _, to := range []int{1, 2, 4, 8} {
		for _, from := range []int{0, 255, 4090, 65530, 999900} {
			for n := from; n <= from+100; n++ {
				x := impl.AlignUp(n, to)
				if x%to != 0 || x < n || x >= n+to {
					t.Errorf("AlignUp(%d, %d) = %d", n, to, x)
				}
			}
		}
	}
}

func TestAlignUpRefusesOtherArguments(t *testing.T) {
	for _, to := range []int{1, 2, 4, 8} {
		for _, n := range []int{math.MinInt, -8, -4, -1, 1000001, 1000008, 1 << 40, math.MaxInt - 7, math.MaxInt} {
			if x := impl.AlignUp(n, to); x != -1 {
				t.Errorf("AlignUp(%d, %d) = %d", n, to, x)
			}
		}
	}
	for _, to := range []int{math.MinInt, -8, -4, -2, -1, 0, 3, 5, 6, 7, 9, 10, 12, 16, 32, 64, 1 << 40, math.MaxInt} {
		for _, n := range []int{math.MinInt, -1, 0, 1, 5, 8, 1000000, 1000001, math.MaxInt} {
			if x := impl.AlignUp(n, to); x != -1 {
				t.Errorf("AlignUp(%d, %d) = %d", n, to, x)
			}
		}
	}
}

// Promise 85: bytes of two numbers stand behind each other.
func TestPromise85(t *testing.T) {
	halves := []int{0, 1, 127, 128, 255, 256, 511, 513, 32767, 32768, 43981, 65279, 65280, 65534, 65535}
	for _, low := range halves {
		for _, high := range halves {
			both := append(append([]byte(nil), impl.PutNumber(low, 2)...), impl.PutNumber(high, 2)...)
			n := low + 65536*high
			if x := impl.GetNumber(both, 0, 4); x != n {
				t.Errorf("%d behind %d is read as %d", high, low, x)
			}
			if x := impl.PutNumber(n, 4); !bytes.Equal(x, both) {
				t.Errorf("%d is written as %v, not as %v", n, x, both)
			}
		}
	}
}
