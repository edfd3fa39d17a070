package tests

import (
	"math"
	"reflect"
	"slices"
	"strings"
	"testing"

	"loop.example/objectlinker/impl"
)

// farInts are ints outside of all ranges of sections.
var farInts = []int{math.MinInt, math.MinInt + 1, -1 << 40, -1 << 32, -4096, 4096, 1 << 32, 1<<32 + 1, 1 << 40, math.MaxInt - 4, math.MaxInt - 1, math.MaxInt}

// fixupsOf returns fixups of symbol 0 at places, all of one kind.
func fixupsOf(kind int, places ...int) []impl.Fixup {
	var list []impl.Fixup
	for _, at := range places {
		list = append(list, impl.Fixup{At: at, Kind: kind})
	}
	return list
}

// filledSection returns a section of code with size bytes and these fixups.
func filledSection(size int, fixups ...impl.Fixup) impl.Section {
	return impl.Section{Name: "code", Kind: impl.SectionCode, Align: 1, Bytes: make([]byte, size), Fixups: fixups}
}

// blankSection returns a section without bytes.
func blankSection(size int) impl.Section {
	return impl.Section{Name: "buf", Kind: impl.SectionBlank, Align: 8, Size: size}
}

// someSections are sections that are valid in an object with 3 symbols.
func someSections() []impl.Section {
	list := []impl.Section{
		filledSection(0),
		filledSection(1),
		filledSection(48),
		filledSection(1, impl.Fixup{Kind: impl.FixupNear}),
		filledSection(2, impl.Fixup{Kind: impl.FixupShort, To: 2, Add: 1000}),
		filledSection(4, impl.Fixup{Kind: impl.FixupLong, To: 1, Add: -1000}),
		filledSection(48, fixupsOf(impl.FixupLong, 0, 4, 8, 12, 16, 44)...),
		filledSection(48, fixupsOf(impl.FixupNear, 42, 43, 44, 45, 46, 47)...),
		{Name: "code", Kind: impl.SectionCode, Align: 4, Bytes: []byte{1, 2, 3, 4, 5, 6}, Fixups: []impl.Fixup{{At: 0, Kind: impl.FixupShort}, {At: 2, Kind: impl.FixupLong, To: 1, Add: -5}}},
		{Name: ".data_1", Kind: impl.SectionData, Align: 8, Bytes: []byte("seven bytes and more"), Fixups: []impl.Fixup{{At: 3, Kind: impl.FixupLong, To: 2, Add: 7}, {At: 7, Kind: impl.FixupNear, To: 2}, {At: 18, Kind: impl.FixupShort, To: 1}}},
		{Name: "d", Kind: impl.SectionData, Align: 2, Bytes: []byte{255}},
		{Name: "d", Kind: impl.SectionData, Align: 1, Bytes: []byte{}, Fixups: []impl.Fixup{}},
		{Name: "bss", Kind: impl.SectionBlank, Align: 1, Size: 13, Bytes: []byte{}, Fixups: []impl.Fixup{}},
	}
	for size := 0; size <= 48; size++ {
		list = append(list, blankSection(size))
	}
	return list
}

// cloneSection returns a section with memory of its own.
func cloneSection(s impl.Section) impl.Section {
	s.Bytes, s.Fixups = slices.Clone(s.Bytes), slices.Clone(s.Fixups)
	return s
}

// fillsMeet reports, byte by byte, whether the bytes that fixups fill are outside of size bytes, or some are not behind all that were filled before.
func fillsMeet(fixups []impl.Fixup, size int) bool {
	last := -1
	for _, f := range fixups {
		for i := range []int{0, 1, 2, 4}[f.Kind] {
			place := f.At + i
			if place <= last || place >= size {
				return true
			}
			last = place
		}
	}
	return false
}

func TestTheLimitsOfSections(t *testing.T) {
	if impl.SectionCode != 1 || impl.SectionData != 2 || impl.SectionBlank != 3 || impl.FixupNear != 1 || impl.FixupShort != 2 || impl.FixupLong != 3 {
		t.Error("the kinds have other numbers")
	}
	if impl.MaxBytes != 48 || impl.MaxFixups != 6 || impl.MaxAdd != 1000 {
		t.Error("the limits are others")
	}
}

// Promise 34: fixups fill bytes.
func TestPromise34(t *testing.T) {
	if x := impl.FixupWide(impl.FixupNear); x != 1 {
		t.Errorf("a near fixup fills %d bytes", x)
	}
	for kind := impl.FixupShort; kind <= impl.FixupLong; kind++ {
		if x, before := impl.FixupWide(kind), impl.FixupWide(kind-1); x != 2*before || x == 0 {
			t.Errorf("kind %d fills %d bytes, and the one before %d", kind, x, before)
		}
	}
	for _, kind := range append([]int{-3, -2, -1, 0, 4, 5, 6, 8, 255, 256, 257}, farInts...) {
		if x := impl.FixupWide(kind); x != 0 {
			t.Errorf("kind %d fills %d bytes", kind, x)
		}
	}
}

// Promise 35: sizes are bytes.
func TestPromise35(t *testing.T) {
	for _, kind := range append([]int{-1, 0, 1, 2, 4, 5}, farInts...) {
		for _, many := range []int{0, 1, 2, 47, 48, 49, 300} {
			for _, size := range append([]int{-1, 0, 1, 7, 48, 49}, farInts...) {
				s := impl.Section{Name: "s", Kind: kind, Align: 1, Bytes: make([]byte, many), Size: size}
				if x := impl.SectionSize(s); x != many {
					t.Errorf("with the kind %d, %d bytes and Size %d the size is %d", kind, many, size, x)
				}
			}
		}
	}
	for _, s := range someSections() {
		want := len(s.Bytes)
		if s.Kind == impl.SectionBlank {
			want = s.Size
		}
		if x := impl.SectionSize(s); x != want {
			t.Errorf("the size of %v is %d, not %d", s, x, want)
		}
	}
}

func TestSectionSizeIsSizeForSectionBlank(t *testing.T) {
	for _, size := range append([]int{-2, -1, 0, 1, 2, 47, 48, 49, 1000}, farInts...) {
		for _, many := range []int{0, 1, 5, 48} {
			s := impl.Section{Kind: impl.SectionBlank, Bytes: make([]byte, many), Size: size}
			if x := impl.SectionSize(s); x != size {
				t.Errorf("with the Size %d and %d bytes the size is %d", size, many, x)
			}
		}
	}
	if x := impl.SectionSize(impl.Section{}); x != 0 {
		t.Errorf("the size of nothing is %d", x)
	}
}

// Promise 36: sections have kinds.
func TestPromise36(t *testing.T) {
	for _, s := range someSections() {
		if !impl.SectionValid(s, 3) {
			t.Errorf("%v is not valid", s)
		}
		bare := cloneSection(s)
		bare.Fixups = nil
		for many := 0; many <= 3; many++ {
			if !impl.SectionValid(bare, many) {
				t.Errorf("without fixups %v is not valid with %d symbols", bare, many)
			}
		}
		for _, kind := range append([]int{-1, 0, 4, 5, 255, 256, 257, 258, 259}, farInts...) {
			other := cloneSection(s)
			other.Kind = kind
			if impl.SectionValid(other, 3) {
				t.Errorf("with the kind %d %v is valid", kind, other)
			}
		}
	}
}

func TestSectionsWithBytesMayBeCodeOrData(t *testing.T) {
	for _, s := range someSections() {
		blank := s.Kind == impl.SectionBlank
		for kind := impl.SectionCode; kind <= impl.SectionBlank; kind++ {
			other := cloneSection(s)
			other.Kind = kind
			empty := len(s.Bytes) == 0 && s.Size == 0
			want := blank == (kind == impl.SectionBlank) || empty
			if x := impl.SectionValid(other, 3); x != want {
				t.Errorf("%v is valid: %v", other, x)
			}
		}
	}
}

func TestSectionsHaveNames(t *testing.T) {
	for _, s := range someSections() {
		for _, name := range wrongNames() {
			s.Name = name
			if impl.SectionValid(s, 3) {
				t.Errorf("with the name %q a section of kind %d is valid", name, s.Kind)
			}
		}
		for _, name := range []string{"a", "abcdefgh", ".text", "_", "x.1"} {
			s.Name = name
			if !impl.SectionValid(s, 3) {
				t.Errorf("with the name %q a section of kind %d is not valid", name, s.Kind)
			}
		}
	}
}

func TestSectionsHaveAligns(t *testing.T) {
	for _, s := range someSections() {
		for align := -9; align <= 33; align++ {
			s.Align = align
			want := align == 1 || align == 2 || align == 4 || align == 8
			if x := impl.SectionValid(s, 3); x != want {
				t.Errorf("with the Align %d a section of kind %d is valid: %v", align, s.Kind, x)
			}
		}
		for _, align := range append([]int{64, 128, 256, 257, 258}, farInts...) {
			s.Align = align
			if impl.SectionValid(s, 3) {
				t.Errorf("with the Align %d a section of kind %d is valid", align, s.Kind)
			}
		}
	}
}

func TestBlankSectionsHaveASizeAlone(t *testing.T) {
	for size := -60; size <= 110; size++ {
		want := size >= 0 && size <= 48
		for _, many := range []int{0, 1, 12} {
			if x := impl.SectionValid(blankSection(size), many); x != want {
				t.Errorf("a section without bytes is valid with the Size %d: %v", size, x)
			}
		}
	}
	for _, size := range farInts {
		if impl.SectionValid(blankSection(size), 1) {
			t.Errorf("a section without bytes is valid with the Size %d", size)
		}
	}
	for _, size := range []int{0, 1, 5, 48} {
		s := blankSection(size)
		for _, many := range []int{1, 5, 48, 49} {
			s.Bytes = make([]byte, many)
			if impl.SectionValid(s, 3) {
				t.Errorf("a section without bytes is valid with %d bytes and the Size %d", many, size)
			}
		}
		for _, s := range []impl.Section{blankSection(size), {Name: "b", Kind: impl.SectionBlank, Align: 1, Size: size, Bytes: make([]byte, 5)}} {
			s.Fixups = fixupsOf(impl.FixupNear, 0)
			if impl.SectionValid(s, 3) {
				t.Errorf("a section without bytes is valid with a fixup and the Size %d", size)
			}
			s.Fixups = []impl.Fixup{{}}
			if impl.SectionValid(s, 3) {
				t.Errorf("a section without bytes is valid with a fixup of no kind and the Size %d", size)
			}
		}
	}
}

func TestOtherSectionsHaveNoSize(t *testing.T) {
	for _, kind := range []int{impl.SectionCode, impl.SectionData} {
		for _, many := range []int{0, 1, 5, 48} {
			s := impl.Section{Name: "s", Kind: kind, Align: 1, Bytes: make([]byte, many)}
			if !impl.SectionValid(s, 0) {
				t.Errorf("%v is not valid", s)
			}
			for _, size := range append([]int{-many, -1, 1, 2, many, 48, 49}, farInts...) {
				s.Size = size
				if size != 0 && impl.SectionValid(s, 0) {
					t.Errorf("a section of kind %d with %d bytes is valid with the Size %d", kind, many, size)
				}
			}
		}
	}
}

func TestSectionsHaveSomeBytesAndFixups(t *testing.T) {
	for _, kind := range []int{impl.SectionCode, impl.SectionData} {
		for many := range 130 {
			s := impl.Section{Name: "s", Kind: kind, Align: 2, Bytes: make([]byte, many)}
			if x := impl.SectionValid(s, 0); x != (many <= 48) {
				t.Errorf("with %d bytes a section of kind %d is valid: %v", many, kind, x)
			}
		}
		for many := range 48 {
			s := impl.Section{Name: "s", Kind: kind, Align: 2, Bytes: make([]byte, 48)}
			for at := range many {
				s.Fixups = append(s.Fixups, impl.Fixup{At: at, Kind: impl.FixupNear})
			}
			if x := impl.SectionValid(s, 1); x != (many <= 6) {
				t.Errorf("with %d fixups a section of kind %d is valid: %v", many, kind, x)
			}
		}
	}
}

func TestFixupsHaveKinds(t *testing.T) {
	for _, kind := range append([]int{-3, -2, -1, 0, 1, 2, 3, 4, 5, 6, 256, 257, 258, 259}, farInts...) {
		want := kind >= 1 && kind <= 3
		for _, s := range []impl.Section{
			filledSection(48, fixupsOf(kind, 8)...),
			filledSection(48, fixupsOf(kind, 0, 10, 20)...),
			filledSection(48, impl.Fixup{At: 0, Kind: impl.FixupNear}, impl.Fixup{At: 4, Kind: kind}),
			filledSection(48, impl.Fixup{At: 4, Kind: kind}, impl.Fixup{At: 8, Kind: impl.FixupNear}),
		} {
			if x := impl.SectionValid(s, 1); x != want {
				t.Errorf("with the fixups %v a section is valid: %v", s.Fixups, x)
			}
		}
	}
}

func TestFixupsHaveSymbols(t *testing.T) {
	for _, many := range append([]int{-5, -1, 0, 1, 2, 3, 12, 13, 100}, farInts...) {
		for _, to := range append([]int{-12, -1, 0, 1, 2, 11, 12, 13, 99, 100, many, many - 1}, farInts...) {
			want := to >= 0 && to < many
			only := filledSection(4, impl.Fixup{Kind: impl.FixupLong, To: to})
			if x := impl.SectionValid(only, many); x != want {
				t.Errorf("with %d symbols a fixup of symbol %d is valid: %v", many, to, x)
			}
			second := filledSection(4, impl.Fixup{Kind: impl.FixupNear}, impl.Fixup{At: 1, Kind: impl.FixupShort, To: to})
			if x := impl.SectionValid(second, many); x != want {
				t.Errorf("with %d symbols a second fixup of symbol %d is valid: %v", many, to, x)
			}
		}
	}
}

func TestFixupsAddNumbers(t *testing.T) {
	adds := append([]int{-2000, -1002, -1001, -1000, -999, -1, 0, 1, 255, 256, 999, 1000, 1001, 1002, 2000}, farInts...)
	for _, add := range adds {
		want := add >= -1000 && add <= 1000
		for kind := impl.FixupNear; kind <= impl.FixupLong; kind++ {
			for _, s := range []impl.Section{
				filledSection(8, impl.Fixup{Kind: kind, Add: add}),
				filledSection(8, impl.Fixup{Kind: kind}, impl.Fixup{At: 4, Kind: kind, Add: add}),
				filledSection(8, impl.Fixup{Kind: kind, Add: add}, impl.Fixup{At: 4, Kind: kind}),
			} {
				if x := impl.SectionValid(s, 1); x != want {
					t.Errorf("with the fixups %v a section is valid: %v", s.Fixups, x)
				}
			}
		}
	}
}

func TestFixupsAreInTheirSection(t *testing.T) {
	for kind := impl.FixupNear; kind <= impl.FixupLong; kind++ {
		wide := []int{0, 1, 2, 4}[kind]
		for _, size := range []int{0, 1, 2, 3, 4, 5, 47, 48} {
			for at := -5; at <= 55; at++ {
				want := at >= 0 && at+wide <= size
				if x := impl.SectionValid(filledSection(size, fixupsOf(kind, at)...), 1); x != want {
					t.Errorf("a fixup of kind %d at %d of %d bytes is valid: %v", kind, at, size, x)
				}
			}
			for _, at := range append([]int{math.MaxInt - 2, math.MaxInt - 3, math.MinInt + 2, math.MinInt + 48}, farInts...) {
				if impl.SectionValid(filledSection(size, fixupsOf(kind, at)...), 1) {
					t.Errorf("a fixup of kind %d at %d of %d bytes is valid", kind, at, size)
				}
				if impl.SectionValid(filledSection(size, append(fixupsOf(impl.FixupNear, 0), fixupsOf(kind, at)...)...), 1) {
					t.Errorf("a second fixup of kind %d at %d of %d bytes is valid", kind, at, size)
				}
				if impl.SectionValid(filledSection(size, append(fixupsOf(kind, at), fixupsOf(impl.FixupNear, 0)...)...), 1) {
					t.Errorf("a first fixup of kind %d at %d of %d bytes is valid", kind, at, size)
				}
			}
		}
	}
	// What stands behind the length is not of the section, though it is there.
	s := filledSection(48, fixupsOf(impl.FixupShort, 3)...)
	s.Bytes = s.Bytes[:4]
	if impl.SectionValid(s, 1) {
		t.Error("a fixup behind the bytes is valid")
	}
}

// TestFixupsDoNotMeet looks at all pairs and triples of fixups of a small section.
func TestFixupsDoNotMeet(t *testing.T) {
	const size = 7
	var one []impl.Fixup
	for kind := impl.FixupNear; kind <= impl.FixupLong; kind++ {
		one = append(one, fixupsOf(kind, -1, 0, 1, 2, 3, 4, 5, 6, 7)...)
	}
	for _, a := range one {
		for _, b := range one {
			list := []impl.Fixup{a, b}
			if x := impl.SectionValid(filledSection(size, list...), 1); x == fillsMeet(list, size) {
				t.Errorf("with the fixups %v a section is valid: %v", list, x)
			}
			for _, c := range one {
				list := []impl.Fixup{a, b, c}
				if x := impl.SectionValid(filledSection(size, list...), 1); x == fillsMeet(list, size) {
					t.Errorf("with the fixups %v a section is valid: %v", list, x)
				}
			}
		}
	}
}

func TestFixupsThatMeet(t *testing.T) {
	near, short, long := impl.FixupNear, impl.FixupShort, impl.FixupLong
	for _, c := range []struct {
		what   string
		fixups []impl.Fixup
		want   bool
	}{
		{"directly behind each other", []impl.Fixup{{At: 0, Kind: short}, {At: 2, Kind: long}, {At: 6, Kind: near}, {At: 7, Kind: near}}, true},
		{"with a place between", []impl.Fixup{{At: 0, Kind: short}, {At: 3, Kind: long}}, true},
		{"with a place in common", []impl.Fixup{{At: 0, Kind: short}, {At: 1, Kind: long}}, false},
		{"at one place", []impl.Fixup{{At: 3, Kind: near}, {At: 3, Kind: near}}, false},
		{"one in the other", []impl.Fixup{{At: 0, Kind: long}, {At: 2, Kind: near}}, false},
		{"one in the other, the inner one first", []impl.Fixup{{At: 2, Kind: near}, {At: 0, Kind: long}}, false},
		{"in the wrong order", []impl.Fixup{{At: 4, Kind: short}, {At: 0, Kind: short}}, false},
		{"in the wrong order at the end", []impl.Fixup{{At: 0, Kind: near}, {At: 6, Kind: near}, {At: 3, Kind: near}}, false},
		{"the third one meets the first one", []impl.Fixup{{At: 0, Kind: long}, {At: 5, Kind: near}, {At: 3, Kind: near}}, false},
		{"up to the last byte", []impl.Fixup{{At: 0, Kind: long}, {At: 4, Kind: long}}, true},
		{"one behind the last byte", []impl.Fixup{{At: 0, Kind: long}, {At: 5, Kind: long}}, false},
	} {
		if x := impl.SectionValid(filledSection(8, c.fixups...), 1); x != c.want {
			t.Errorf("fixups %s are valid: %v", c.what, x)
		}
	}
}

func TestSectionsAreLeftAlone(t *testing.T) {
	for _, s := range someSections() {
		before := cloneSection(s)
		impl.SectionValid(s, 3)
		impl.SectionSize(s)
		if !reflect.DeepEqual(s, before) {
			t.Errorf("%v was changed to %v", before, s)
		}
	}
	wrong := impl.Section{Name: strings.Repeat("x", 9), Kind: -1, Bytes: []byte{1, 2}, Fixups: fixupsOf(9, 5, 4, 3)}
	before := cloneSection(wrong)
	if impl.SectionValid(wrong, 3) || impl.SectionSize(wrong) != 2 || !reflect.DeepEqual(wrong, before) {
		t.Errorf("%v was changed to %v, or is valid", before, wrong)
	}
	if impl.SectionValid(impl.Section{}, 0) {
		t.Error("nothing is a valid section")
	}
}
