package tests

import (
	"bytes"
	"math"
	"slices"
	"testing"

	"loop.example/objectlinker/impl"
)

// The numbers of valid headers: the ends of each field, and some between.
var (
	fewSections = []int{0, 1, 2, 7, 8}
	fewSymbols  = []int{0, 1, 2, 11, 12}
	fewFixups   = []int{0, 1, 2, 6, 47, 48}
	fewNames    = []int{1, 2, 10, 127, 128, 144, 145, 254, 255, 256, 257, 300, 398, 399, 400}
)

// headersOf returns all headers with these numbers.
func headersOf(sections, symbols, fixups, names []int) []impl.Header {
	var list []impl.Header
	for _, a := range sections {
		for _, b := range symbols {
			for _, c := range fixups {
				for _, d := range names {
					list = append(list, impl.Header{Sections: a, Symbols: b, Fixups: c, Names: d})
				}
			}
		}
	}
	return list
}

// someHeaders are valid headers.
func someHeaders() []impl.Header {
	return headersOf(fewSections, fewSymbols, fewFixups, fewNames)
}

// edgeHeaders are the valid headers whose fields are all at an end of their ranges, and one with four different numbers.
func edgeHeaders() []impl.Header {
	list := headersOf([]int{0, 8}, []int{0, 12}, []int{0, 48}, []int{1, 255, 256, 400})
	return append(list, impl.Header{Sections: 3, Symbols: 5, Fixups: 7, Names: 300})
}

// numbersUpTo returns the numbers from one on up to another one.
func numbersUpTo(from, to int) []int {
	var list []int
	for n := from; n <= to; n++ {
		list = append(list, n)
	}
	return list
}

// headerFits reports, field by field, whether the numbers of a header are in their ranges.
func headerFits(h impl.Header) bool {
	return h.Sections >= 0 && h.Sections <= 8 && h.Symbols >= 0 && h.Symbols <= 12 && h.Fixups >= 0 && h.Fixups <= 48 && h.Names >= 1 && h.Names <= 400
}

// headerBytes writes a valid header byte by byte.
func headerBytes(h impl.Header) []byte {
	return []byte{111, 98, 106, 1, byte(h.Sections), byte(h.Symbols), byte(h.Fixups), byte(h.Names % 256), byte(h.Names / 256), 0}
}

// headerIn reads a header byte by byte.
func headerIn(b []byte) (impl.Header, bool) {
	if len(b) < 10 || b[0] != 111 || b[1] != 98 || b[2] != 106 || b[3] != 1 || b[9] != 0 {
		return impl.Header{}, false
	}
	h := impl.Header{Sections: int(b[4]), Symbols: int(b[5]), Fixups: int(b[6]), Names: int(b[7]) + 256*int(b[8])}
	if !headerFits(h) {
		return impl.Header{}, false
	}
	return h, true
}

// wrongBytes are beginnings that no header has.
func wrongBytes() [][]byte {
	return [][]byte{
		nil,
		{},
		{0},
		[]byte("obj"),
		[]byte("obj\x01"),
		make([]byte, 9),
		make([]byte, 10),
		make([]byte, 100),
		bytes.Repeat([]byte{255}, 10),
		bytes.Repeat([]byte("obj\x01"), 10),
		[]byte("OBJ\x01\x01\x02\x03\x2c\x01\x00"),
		[]byte("jbo\x01\x01\x02\x03\x2c\x01\x00"),
		[]byte("obj1\x01\x02\x03\x2c\x01\x00"),
		[]byte("obj\x00\x01\x02\x03\x2c\x01\x00"),
		[]byte("obj\x02\x01\x02\x03\x2c\x01\x00"),
		[]byte("\x01jbo\x01\x02\x03\x2c\x01\x00"),
		[]byte("obj\x01\x01\x02\x03\x2c\x01\x01"),
		[]byte("obj\x01\x09\x02\x03\x2c\x01\x00"),
		[]byte("obj\x01\x01\x0d\x03\x2c\x01\x00"),
		[]byte("obj\x01\x01\x02\x31\x2c\x01\x00"),
		[]byte("obj\x01\x01\x02\x03\x00\x00\x00"),
		[]byte("obj\x01\x01\x02\x03\x91\x01\x00"),
		[]byte("obj\x01\x01\x02\x03\x00\x02\x00"),
		[]byte("obj\x01\x01\x02\x03\x01\x2c\x00"),
		[]byte(" obj\x01\x01\x02\x03\x2c\x01\x00"),
		[]byte("\x00obj\x01\x01\x02\x03\x2c\x01\x00"),
		[]byte("oobj\x01\x01\x02\x03\x2c\x01\x00"),
		[]byte("obj\x01\x01\x02\x03\x2c\x01"),
		[]byte("obj\x01\x01\x02\x03\x2c\x00"),
		[]byte("obj\x01\x00\x01\x00\x02\x00\x03\x2c\x01\x00"),
	}
}

// checkRead holds what GetHeader returns for bytes against what stands in them.
func checkRead(t *testing.T, b []byte) {
	t.Helper()
	want, fits := headerIn(b)
	h, ok := impl.GetHeader(b)
	if h != want || ok != fits {
		t.Errorf("GetHeader(%v) = %v, %v, not %v, %v", b, h, ok, want, fits)
	}
	if !ok {
		return
	}
	if !impl.HeaderValid(h) {
		t.Errorf("GetHeader(%v) = %v is not valid", b, h)
	}
	if x := impl.PutHeader(h); len(x) != 10 || !bytes.HasPrefix(b, x) {
		t.Errorf("GetHeader(%v) = %v is written as %v", b, h, x)
	}
}

// checkHeader holds whether a header is valid, and its bytes, against what it should be.
func checkHeader(t *testing.T, h impl.Header) {
	t.Helper()
	want := headerFits(h)
	if x := impl.HeaderValid(h); x != want {
		t.Errorf("%v is valid: %v", h, x)
	}
	x := impl.PutHeader(h)
	if want && !bytes.Equal(x, headerBytes(h)) {
		t.Errorf("%v is written as %v, not as %v", h, x, headerBytes(h))
	}
	if !want && x != nil {
		t.Errorf("%v is not valid and is written as %v", h, x)
	}
}

func TestTheSizeOfHeaders(t *testing.T) {
	if impl.HeaderSize != 10 {
		t.Error("HeaderSize is", impl.HeaderSize)
	}
	for _, h := range someHeaders() {
		if x := impl.PutHeader(h); len(x) != impl.HeaderSize {
			t.Errorf("%v is written in %d bytes", h, len(x))
		}
	}
}

// Promise 41: headers have names.
func TestPromise41(t *testing.T) {
	for _, h := range headersOf(numbersUpTo(0, 8), numbersUpTo(0, 12), numbersUpTo(0, 48), []int{1}) {
		if !impl.HeaderValid(h) || len(impl.PutHeader(h)) != 10 {
			t.Errorf("%v is not valid", h)
		}
		h.Names = 0
		if impl.HeaderValid(h) || impl.PutHeader(h) != nil {
			t.Errorf("%v is valid", h)
		}
		if x, ok := impl.GetHeader(headerBytes(h)); ok || x != (impl.Header{}) {
			t.Errorf("%v is read as %v, %v", h, x, ok)
		}
	}
	if impl.HeaderValid(impl.Header{}) || impl.PutHeader(impl.Header{}) != nil {
		t.Error("nothing is a valid header")
	}
}

// Promise 42: headers can be read.
func TestPromise42(t *testing.T) {
	behind := [][]byte{nil, {0}, {1}, {7}, {255}, []byte("o"), []byte("obj\x01\x08\x0c\x30\x90\x01\x00"), make([]byte, 300), bytes.Repeat([]byte{255}, 2000)}
	for _, h := range someHeaders() {
		for _, more := range behind {
			b := slices.Concat(impl.PutHeader(h), more)
			if x, ok := impl.GetHeader(b); !ok || x != h {
				t.Errorf("%v with %d bytes behind it is read as %v, %v", h, len(more), x, ok)
			}
		}
	}
	for n := range 256 {
		for _, h := range edgeHeaders() {
			if x, ok := impl.GetHeader(append(impl.PutHeader(h), byte(n))); !ok || x != h {
				t.Errorf("%v with the byte %d behind it is read as %v, %v", h, n, x, ok)
			}
		}
	}
}

// Promise 42, too: all headers of some lengths of tables, and some with all lengths.
func TestAllHeadersCanBeRead(t *testing.T) {
	list := headersOf(numbersUpTo(0, 8), numbersUpTo(0, 12), numbersUpTo(0, 48), []int{1, 255, 256, 400})
	list = append(list, headersOf([]int{0, 8}, []int{0, 12}, []int{0, 48}, numbersUpTo(1, 400))...)
	for _, h := range list {
		checkHeader(t, h)
		if x, ok := impl.GetHeader(impl.PutHeader(h)); !ok || x != h {
			t.Errorf("%v is read as %v, %v", h, x, ok)
		}
	}
}

// Promise 43: read headers can be written.
func TestPromise43(t *testing.T) {
	for _, a := range numbersUpTo(0, 15) {
		for _, b := range numbersUpTo(0, 15) {
			for _, c := range []int{0, 1, 46, 47, 48, 49, 50, 128, 255} {
				for _, low := range []byte{0, 1, 143, 144, 145, 255} {
					for _, high := range []byte{0, 1, 2, 255} {
						header := []byte{'o', 'b', 'j', 1, byte(a), byte(b), byte(c), low, high, 0}
						checkRead(t, header)
						checkRead(t, append(header, 0))
						checkRead(t, append(header, 'o', 'b', 'j', 1))
					}
				}
			}
		}
	}
	for _, h := range someHeaders() {
		checkRead(t, headerBytes(h))
	}
}

func TestLengthsOfNamesStandInTwoBytes(t *testing.T) {
	for _, h := range []impl.Header{{}, {Sections: 8, Symbols: 12, Fixups: 48}} {
		for low := range 256 {
			for high := range 256 {
				b := headerBytes(h)
				b[7], b[8] = byte(low), byte(high)
				checkRead(t, b)
			}
		}
	}
}

func TestEachByteOfHeadersCounts(t *testing.T) {
	for _, h := range edgeHeaders() {
		for _, more := range [][]byte{nil, {0}, []byte("obj\x01\x01\x02\x03\x2c\x01\x00")} {
			for at := range 10 {
				for n := range 256 {
					b := slices.Concat(impl.PutHeader(h), more)
					if b[at] == byte(n) {
						continue
					}
					b[at] = byte(n)
					checkRead(t, b)
					// The letters, the byte 1 and the last byte 0 are the same in all headers.
					if x, ok := impl.GetHeader(b); ok && (at < 4 || at == 9 || x == h) {
						t.Errorf("with the byte %d at %d %v is read as %v", n, at, h, x)
					}
				}
			}
		}
	}
}

func TestPairsOfBytesOfHeadersCount(t *testing.T) {
	h := impl.Header{Sections: 3, Symbols: 5, Fixups: 7, Names: 300}
	for first := range 10 {
		for second := range first {
			for _, n := range []byte{0, 1, 2, 8, 9, 12, 13, 48, 49, 98, 106, 111, 128, 255} {
				for _, m := range []byte{0, 1, 2, 8, 9, 12, 13, 48, 49, 98, 106, 111, 128, 255} {
					b := headerBytes(h)
					b[first], b[second] = n, m
					checkRead(t, b)
				}
			}
			b := headerBytes(h)
			b[first], b[second] = b[second], b[first]
			checkRead(t, b)
		}
	}
}

func TestHeadersHaveLimits(t *testing.T) {
	sections, symbols, fixups, names := []int{-1, 0, 1, 7, 8, 9}, []int{-1, 0, 1, 8, 11, 12, 13}, []int{-1, 0, 1, 12, 13, 47, 48, 49}, []int{-1, 0, 1, 2, 48, 49, 255, 256, 399, 400, 401}
	for _, h := range headersOf(sections, symbols, fixups, names) {
		checkHeader(t, h)
	}
	for n := -1000; n <= 70000; n++ {
		for _, h := range []impl.Header{
			{Sections: n, Names: 1},
			{Symbols: n, Names: 256},
			{Fixups: n, Names: 400},
			{Names: n},
			{Sections: 8, Symbols: 12, Fixups: 48, Names: n},
			{Sections: n, Symbols: n, Fixups: n, Names: n},
		} {
			checkHeader(t, h)
		}
	}
}

// TestNumbersOfHeadersAreNotCut takes numbers whose last bytes are those of valid ones.
func TestNumbersOfHeadersAreNotCut(t *testing.T) {
	for _, by := range []int{1 << 8, 1 << 16, 1 << 31, 1 << 32, 1 << 40, 1 << 62, -1 << 8, -1 << 16, -1 << 31, -1 << 32, -1 << 40, math.MinInt} {
		for _, h := range edgeHeaders() {
			for _, c := range []impl.Header{
				{Sections: h.Sections + by, Symbols: h.Symbols, Fixups: h.Fixups, Names: h.Names},
				{Sections: h.Sections, Symbols: h.Symbols + by, Fixups: h.Fixups, Names: h.Names},
				{Sections: h.Sections, Symbols: h.Symbols, Fixups: h.Fixups + by, Names: h.Names},
				{Sections: h.Sections, Symbols: h.Symbols, Fixups: h.Fixups, Names: h.Names + by},
				{Sections: h.Sections + by, Symbols: h.Symbols + by, Fixups: h.Fixups + by, Names: h.Names + by},
				{Sections: h.Sections + by, Symbols: h.Symbols - by, Fixups: h.Fixups, Names: h.Names},
			} {
				checkHeader(t, c)
			}
		}
	}
}

func TestFarIntsAreNoHeaders(t *testing.T) {
	for _, n := range append([]int{math.MinInt32, math.MaxInt32, math.MaxUint32}, farInts...) {
		for _, h := range []impl.Header{
			{Sections: n, Symbols: 1, Fixups: 1, Names: 1},
			{Sections: 1, Symbols: n, Fixups: 1, Names: 1},
			{Sections: 1, Symbols: 1, Fixups: n, Names: 1},
			{Sections: 1, Symbols: 1, Fixups: 1, Names: n},
			{Sections: n, Symbols: n, Fixups: n, Names: n},
		} {
			if impl.HeaderValid(h) || impl.PutHeader(h) != nil {
				t.Errorf("%v is valid", h)
			}
		}
	}
}

func TestBytesOfHeaders(t *testing.T) {
	for _, c := range []struct {
		h    impl.Header
		text string
	}{
		{impl.Header{Names: 1}, "obj\x01\x00\x00\x00\x01\x00\x00"},
		{impl.Header{Sections: 1, Symbols: 2, Fixups: 3, Names: 4}, "obj\x01\x01\x02\x03\x04\x00\x00"},
		{impl.Header{Sections: 1, Symbols: 2, Fixups: 3, Names: 300}, "obj\x01\x01\x02\x03\x2c\x01\x00"},
		{impl.Header{Sections: 8, Names: 255}, "obj\x01\x08\x00\x00\xff\x00\x00"},
		{impl.Header{Symbols: 12, Names: 256}, "obj\x01\x00\x0c\x00\x00\x01\x00"},
		{impl.Header{Fixups: 48, Names: 257}, "obj\x01\x00\x00\x30\x01\x01\x00"},
		{impl.Header{Sections: 8, Symbols: 12, Fixups: 48, Names: 400}, "obj\x01\x08\x0c\x30\x90\x01\x00"},
	} {
		if !impl.HeaderValid(c.h) {
			t.Errorf("%v is not valid", c.h)
		}
		if x := impl.PutHeader(c.h); string(x) != c.text {
			t.Errorf("%v is written as %q", c.h, x)
		}
		if x, ok := impl.GetHeader([]byte(c.text)); !ok || x != c.h {
			t.Errorf("%q is read as %v, %v", c.text, x, ok)
		}
	}
}

func TestOtherBytesAreNoHeaders(t *testing.T) {
	for _, b := range wrongBytes() {
		if h, ok := impl.GetHeader(b); ok || h != (impl.Header{}) {
			t.Errorf("%q is read as %v, %v", b, h, ok)
		}
	}
	for _, h := range edgeHeaders() {
		for n := range 256 {
			// Behind another byte a header is not at the beginning.
			checkRead(t, append([]byte{byte(n)}, headerBytes(h)...))
		}
	}
}

func TestHeadersAreAllThere(t *testing.T) {
	for _, h := range edgeHeaders() {
		b := append(headerBytes(h), 1, 2, 3)
		for size := range 10 {
			// What stands behind the length of the bytes is not of them, though it is there.
			for _, part := range [][]byte{b[:size], slices.Clone(b[:size]), b[:size:size]} {
				if x, ok := impl.GetHeader(part); ok || x != (impl.Header{}) {
					t.Errorf("the first %d bytes of %v are read as %v, %v", size, h, x, ok)
				}
			}
			without := slices.Delete(slices.Clone(b[:10]), size, size+1)
			if x, ok := impl.GetHeader(without); ok || x != (impl.Header{}) {
				t.Errorf("%v without the byte at %d is read as %v, %v", h, size, x, ok)
			}
			checkRead(t, slices.Delete(slices.Clone(b), size, size+1))
		}
	}
}

func TestBytesOfHeadersAreLeftAlone(t *testing.T) {
	list := wrongBytes()
	for _, h := range edgeHeaders() {
		list = append(list, append(headerBytes(h), 1, 2, 3))
	}
	for _, b := range list {
		before := slices.Clone(b)
		impl.GetHeader(b)
		if !bytes.Equal(b, before) {
			t.Errorf("%v was changed to %v", before, b)
		}
	}
	for _, h := range edgeHeaders() {
		first, second := impl.PutHeader(h), impl.PutHeader(h)
		first = first[:cap(first)]
		for i := range first {
			first[i] = 77
		}
		if !bytes.Equal(second, headerBytes(h)) || !bytes.Equal(impl.PutHeader(h), headerBytes(h)) {
			t.Errorf("two results for %v share memory", h)
		}
	}
}
