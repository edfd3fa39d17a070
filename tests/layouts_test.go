package tests

import (
	"fmt"
	"math"
	"slices"
	"testing"

	"loop.example/objectlinker/impl"
)

// The kinds of sections, by short names.
const (
	code  = impl.SectionCode
	data  = impl.SectionData
	blank = impl.SectionBlank
)

// someBases are bases at which an image may begin.
var someBases = []int{0, 8, 16, 2048, 4088, 4096}

// wrongBases are bases at which no image may begin, far ones among them.
var wrongBases = append(
	[]int{-8, -1, 1, 2, 4, 6, 7, 9, 12, 100, 4092, 4095, 4097, 4100, 4103, 4104, 4112, 8192, 65536, math.MinInt32, 1<<32 + 8, 1<<40 + 4096, math.MaxInt - 7},
	slices.DeleteFunc(slices.Clone(farInts), func(n int) bool { return n == 4096 })...,
)

// placed is where sections are: their places, the ends of each kind, and the place behind all.
type placed struct {
	places [][]int
	ends   [][]int
	end    int
}

// placedOf places sections of valid objects as the document tells it, going on place by place.
func placedOf(list []impl.Object, base int) placed {
	p := placed{places: make([][]int, len(list)), end: base}
	for in, o := range list {
		p.places[in] = make([]int, len(o.Sections))
	}
	for _, kind := range []int{code, data, blank} {
		for p.end%8 != 0 {
			p.end++
		}
		from := p.end
		for in, o := range list {
			for at, s := range o.Sections {
				if s.Kind != kind {
					continue
				}
				for p.end%s.Align != 0 {
					p.end++
				}
				p.places[in][at] = p.end
				// One of both is 0.
				p.end += len(s.Bytes) + s.Size
			}
		}
		p.ends = append(p.ends, []int{from, p.end})
	}
	return p
}

// sameLists reports whether lists have the same numbers.
func sameLists(a, b [][]int) bool {
	return slices.EqualFunc(a, b, slices.Equal)
}

// cloneLists returns lists with memory of their own.
func cloneLists(lists [][]int) [][]int {
	var x [][]int
	for _, list := range lists {
		x = append(x, slices.Clone(list))
	}
	return x
}

// checkPlacedAt says where the sections of valid objects are.
func checkPlacedAt(t *testing.T, what string, list []impl.Object, base int, want placed) {
	t.Helper()
	places, end, ok := impl.PlaceSections(list, base)
	if !ok || !sameLists(places, want.places) || end != want.end {
		t.Errorf("%s: from %d on %v are at %v up to %d, %v, not at %v up to %d", what, base, list, places, end, ok, want.places, want.end)
	}
	if ends := impl.KindEnds(list, base); !sameLists(ends, want.ends) {
		t.Errorf("%s: from %d on the kinds of %v are in %v, not in %v", what, base, list, ends, want.ends)
	}
}

// checkPlaced holds where the sections of valid objects are against where they should be.
func checkPlaced(t *testing.T, list []impl.Object, base int) {
	t.Helper()
	checkPlacedAt(t, "placed", list, base, placedOf(list, base))
}

// checkNotPlaced says that objects cannot be placed from a base on, and that they stay as they are.
func checkNotPlaced(t *testing.T, what string, base int, list ...impl.Object) {
	t.Helper()
	was := cloneObjects(list)
	if places, end, ok := impl.PlaceSections(list, base); places != nil || end != 0 || ok {
		t.Errorf("%s: from %d on %v are at %v up to %d, %v", what, base, list, places, end, ok)
	}
	if ends := impl.KindEnds(list, base); ends != nil {
		t.Errorf("%s: from %d on the kinds of %v are in %v", what, base, list, ends)
	}
	checkSame(t, what, list, was)
}

// sizedSection returns a section of a kind with size bytes.
func sizedSection(kind, align, size int) impl.Section {
	if kind == blank {
		return impl.Section{Name: "sized", Kind: kind, Align: align, Size: size}
	}
	return impl.Section{Name: "sized", Kind: kind, Align: align, Bytes: bytesFrom(size, size)}
}

// kindsObject returns an object with a section of each kind in a list, whose sizes and aligns differ, beginning with those of a number.
func kindsObject(from int, kinds ...int) impl.Object {
	var o impl.Object
	for i, kind := range kinds {
		o.Sections = append(o.Sections, sizedSection(kind, 1<<((from+i)*3%4), (5*(from+i)+3)%9))
	}
	return o
}

// rowsOfKinds are all rows of kinds up to a length.
func rowsOfKinds(length int) [][]int {
	rows := [][]int{nil}
	for from := 0; len(rows[from]) < length; from++ {
		for kind := code; kind <= blank; kind++ {
			rows = append(rows, append(slices.Clone(rows[from]), kind))
		}
	}
	return rows
}

// upTo8 returns the least multiple of 8 that is at least a number.
func upTo8(n int) int { return (n + 7) / 8 * 8 }

func TestTheGreatestBase(t *testing.T) {
	if impl.MaxBase != 4096 {
		t.Error("the limit is another one")
	}
}

// Promise 7: sections do not meet.
func TestPromise7(t *testing.T) {
	for _, list := range someLists() {
		for _, base := range []int{0, 8, 4096} {
			places, end, ok := impl.PlaceSections(list, base)
			if !ok || len(places) != len(list) {
				t.Fatalf("from %d on %v are at %v, %v", base, list, places, ok)
			}
			var filled [6000]bool
			for in, o := range list {
				if len(places[in]) != len(o.Sections) {
					t.Fatalf("from %d on %v are at %v", base, list, places)
				}
				for at, s := range o.Sections {
					from, to := places[in][at], places[in][at]+impl.SectionSize(s)
					if from%s.Align != 0 || from < base || to > end {
						t.Errorf("between %d and %d section %d of object %d of %v is at %d", base, end, at, in, list, from)
					}
					for place := from; place < to; place++ {
						if filled[place] {
							t.Errorf("from %d on two sections of %v are at %d", base, list, place)
						}
						filled[place] = true
					}
				}
			}
		}
	}
}

// Promise 55: kinds are together.
func TestPromise55(t *testing.T) {
	for _, list := range someLists() {
		for _, base := range []int{0, 8, 4096} {
			ends := impl.KindEnds(list, base)
			places, end, _ := impl.PlaceSections(list, base)
			if len(ends) != 3 {
				t.Fatalf("from %d on the kinds of %v are in %v", base, list, ends)
			}
			before := base
			for k, pair := range ends {
				if len(pair) != 2 || pair[0] != upTo8(before) || pair[0] > pair[1] {
					t.Fatalf("from %d on the pair %d of %v is in %v", base, k, list, ends)
				}
				before = pair[1]
			}
			if before != end {
				t.Errorf("from %d on the kinds of %v are in %v, and all sections before %d", base, list, ends, end)
			}
			for in, o := range list {
				for at, s := range o.Sections {
					if pair, from := ends[s.Kind-code], places[in][at]; from < pair[0] || from+impl.SectionSize(s) > pair[1] {
						t.Errorf("from %d on section %d of object %d of %v is at %d, and the kinds are in %v", base, at, in, list, from, ends)
					}
				}
			}
		}
	}
}

func TestSectionsArePlaced(t *testing.T) {
	for _, list := range someLists() {
		for _, base := range someBases {
			checkPlaced(t, list, base)
		}
	}
}

// placedLines are lines of objects, a base, and where the sections are then.
type placedLines struct {
	what  string
	lines [][]string
	base  int
	placed
}

// toldPlaced are objects whose places are told.
func toldPlaced() []placedLines {
	return []placedLines{
		{"no objects", nil, 8, placed{nil, [][]int{{8, 8}, {8, 8}, {8, 8}}, 8}},
		{"objects without anything", [][]string{nil, nil, nil, nil}, 4096, placed{[][]int{{}, {}, {}, {}}, [][]int{{4096, 4096}, {4096, 4096}, {4096, 4096}}, 4096}},
		{"code alone", [][]string{{"section a 1 4 3 010203"}}, 0, placed{[][]int{{0}}, [][]int{{0, 3}, {8, 8}, {8, 8}}, 8}},
		{"data alone", [][]string{{"section a 2 4 3 010203"}}, 16, placed{[][]int{{16}}, [][]int{{16, 16}, {16, 19}, {24, 24}}, 24}},
		{"blanks alone", [][]string{{"section a 3 4 3"}}, 16, placed{[][]int{{16}}, [][]int{{16, 16}, {16, 16}, {16, 19}}, 19}},
		{"no code", [][]string{{"section a 2 1 1 01", "section b 3 1 1"}}, 8, placed{[][]int{{8, 16}}, [][]int{{8, 8}, {8, 9}, {16, 17}}, 17}},
		{"no data", [][]string{{"section a 1 1 1 01", "section b 3 1 1"}}, 8, placed{[][]int{{8, 16}}, [][]int{{8, 9}, {16, 16}, {16, 17}}, 17}},
		{"no blanks", [][]string{{"section a 1 1 1 01", "section b 2 1 1 01"}}, 8, placed{[][]int{{8, 16}}, [][]int{{8, 9}, {16, 17}, {24, 24}}, 24}},
		{"ends that are multiples of 8", [][]string{{"section a 1 1 8 0102030405060708", "section b 2 1 16 01020304050607080102030405060708", "section c 3 1 24"}}, 8, placed{[][]int{{8, 16, 32}}, [][]int{{8, 16}, {16, 32}, {32, 56}}, 56}},
		{"ends that are one more", [][]string{{"section a 1 1 1 01", "section b 2 1 9 010203040506070809", "section c 3 1 1"}}, 0, placed{[][]int{{0, 8, 24}}, [][]int{{0, 1}, {8, 17}, {24, 25}}, 25}},
		{"ends that are one less", [][]string{{"section a 1 1 7 01020304050607", "section b 2 1 7 01020304050607", "section c 3 1 7"}}, 0, placed{[][]int{{0, 8, 16}}, [][]int{{0, 7}, {8, 15}, {16, 23}}, 23}},
		{"an end that is a multiple of 8 ahead of no data", [][]string{{"section a 1 1 8 0102030405060708", "section c 3 1 1"}}, 0, placed{[][]int{{0, 8}}, [][]int{{0, 8}, {8, 8}, {8, 9}}, 9}},
		{"kinds the other way round", [][]string{{"section c 3 2 5", "section b 2 4 6 010203040506", "section a 1 8 7 01020304050607"}}, 4096, placed{[][]int{{4112, 4104, 4096}}, [][]int{{4096, 4103}, {4104, 4110}, {4112, 4117}}, 4117}},
		{"kinds in several objects", [][]string{{"section a 3 1 3", "section b 1 1 3 010203"}, nil, {"section a 1 2 2 0102", "section b 2 1 1 01", "section c 1 4 1 01", "section d 3 8 2"}, {"section a 2 2 2 0102"}}, 24, placed{[][]int{{48, 24}, {}, {28, 40, 32, 56}, {42}}, [][]int{{24, 33}, {40, 44}, {48, 58}}, 58}},
		{"the same object twice", [][]string{{"section a 1 2 3 010203", "section b 3 4 1"}, {"section a 1 2 3 010203", "section b 3 4 1"}}, 0, placed{[][]int{{0, 8}, {4, 12}}, [][]int{{0, 7}, {8, 8}, {8, 13}}, 13}},
		{"an empty section that is moved", [][]string{{"section a 1 1 3 010203", "section b 1 8 0"}}, 0, placed{[][]int{{0, 8}}, [][]int{{0, 8}, {8, 8}, {8, 8}}, 8}},
		{"an empty section that is not moved", [][]string{{"section a 1 1 3 010203", "section b 1 1 0", "section c 1 1 1 09"}}, 0, placed{[][]int{{0, 3, 3}}, [][]int{{0, 4}, {8, 8}, {8, 8}}, 8}},
		{"an empty section of data that is moved", [][]string{{"section a 2 1 9 010203040506070809", "section b 2 4 0"}}, 0, placed{[][]int{{0, 12}}, [][]int{{0, 0}, {0, 12}, {16, 16}}, 16}},
		{"an empty blank that is moved", [][]string{{"section a 3 1 1", "section b 3 8 0"}}, 0, placed{[][]int{{0, 8}}, [][]int{{0, 0}, {0, 0}, {0, 8}}, 8}},
		{"empty sections alone", [][]string{{"section a 1 8 0", "section b 2 4 0", "section c 3 2 0"}}, 8, placed{[][]int{{8, 8, 8}}, [][]int{{8, 8}, {8, 8}, {8, 8}}, 8}},
		{"all aligns", [][]string{{"section a 1 1 1 01", "section b 1 2 1 01", "section c 1 4 1 01", "section d 1 8 1 01", "section e 1 4 1 01", "section f 1 2 1 01", "section g 1 1 1 01"}}, 0, placed{[][]int{{0, 2, 4, 8, 12, 14, 15}}, [][]int{{0, 16}, {16, 16}, {16, 16}}, 16}},
		{"all aligns of blanks", [][]string{{"section a 3 1 5", "section b 3 8 1", "section c 3 2 2", "section d 3 4 0"}}, 0, placed{[][]int{{0, 8, 10, 12}}, [][]int{{0, 0}, {0, 0}, {0, 12}}, 12}},
	}
}

func TestLinesOfPlacedSections(t *testing.T) {
	for _, c := range toldPlaced() {
		checkPlacedAt(t, c.what, objectsRead(t, c.what, c.lines), c.base, c.placed)
	}
}

// TestEveryBase goes through all bases and many more numbers.
func TestEveryBase(t *testing.T) {
	lists := [][]impl.Object{nil, {{}}, {{}, {}, {}, {}}, {oneObject()}, {fullObject(), wideObject()}, {kindsObject(0, blank, data, code, data, code, blank, blank)}}
	for _, list := range lists {
		for base := -5000; base <= 9000; base++ {
			if base >= 0 && base <= 4096 && base%8 == 0 {
				checkPlaced(t, list, base)
			} else {
				checkNotPlaced(t, "a wrong base", base, list...)
			}
		}
		for _, base := range wrongBases {
			checkNotPlaced(t, "a far base", base, list...)
		}
	}
}

// TestABaseMovesAllSections says that from another base on all is moved by the difference.
func TestABaseMovesAllSections(t *testing.T) {
	for _, list := range someLists()[:300] {
		first := placedOf(list, 0)
		for _, base := range []int{8, 24, 1000, 4096} {
			moved := placed{cloneLists(first.places), cloneLists(first.ends), first.end + base}
			for _, numbers := range slices.Concat(moved.places, moved.ends) {
				for i := range numbers {
					numbers[i] += base
				}
			}
			checkPlacedAt(t, "moved", list, base, moved)
		}
	}
}

// TestKindsWithoutSections has every set of kinds, in all sizes, with sections in one object and in several.
func TestKindsWithoutSections(t *testing.T) {
	for mask := range 8 {
		for size := range 49 {
			want := placed{places: [][]int{nil, nil, nil}, end: 8}
			list := make([]impl.Object, 3)
			for k := range 3 {
				from := upTo8(want.end)
				want.end = from
				if mask&(1<<k) != 0 {
					list[k] = sectionsOf(sizedSection(code+k, 8, size))
					want.places[k] = []int{from}
					want.end = from + size
				}
				want.ends = append(want.ends, []int{from, want.end})
			}
			checkPlacedAt(t, "one kind in each object", list, 8, want)
			// The order of the objects does not matter to sections of different kinds.
			turned := placed{places: slices.Clone(want.places), ends: want.ends, end: want.end}
			slices.Reverse(list)
			slices.Reverse(turned.places)
			checkPlacedAt(t, "one kind in each object, turned round", list, 8, turned)
			slices.Reverse(list)
			one := impl.Object{Sections: slices.Concat(list[0].Sections, list[1].Sections, list[2].Sections)}
			together := placed{[][]int{slices.Concat(want.places...)}, want.ends, want.end}
			checkPlacedAt(t, "all kinds in one object", []impl.Object{one}, 8, together)
		}
	}
}

// TestEveryOrderOfKinds has all rows of up to five sections, in one object and divided among up to four.
func TestEveryOrderOfKinds(t *testing.T) {
	for i, kinds := range rowsOfKinds(5) {
		o := kindsObject(i, kinds...)
		checkPlaced(t, []impl.Object{o}, 8)
		want := placedOf([]impl.Object{o}, 8)
		for first := range len(kinds) + 1 {
			for second := first; second <= len(kinds); second++ {
				for third := second; third <= len(kinds); third++ {
					list := []impl.Object{sectionsOf(o.Sections[:first]...), sectionsOf(o.Sections[first:second]...), sectionsOf(o.Sections[second:third]...), sectionsOf(o.Sections[third:]...)}
					all := want.places[0]
					checkPlacedAt(t, "divided", list, 8, placed{[][]int{all[:first], all[first:second], all[second:third], all[third:]}, want.ends, want.end})
				}
			}
		}
	}
}

// TestTheOrderWithinAKindMatters says that sections stay where they are if the kinds are parted, and not if two of one kind are swapped.
func TestTheOrderWithinAKindMatters(t *testing.T) {
	for i, kinds := range rowsOfKinds(6) {
		o := kindsObject(i, kinds...)
		places, end, _ := impl.PlaceSections([]impl.Object{o}, 0)
		numbers := numbersUpTo(0, len(kinds)-1)
		slices.SortStableFunc(numbers, func(a, b int) int { return kinds[b] - kinds[a] })
		var parted impl.Object
		var want []int
		for _, k := range numbers {
			parted.Sections = append(parted.Sections, o.Sections[k])
			want = append(want, places[0][k])
		}
		if x, e, ok := impl.PlaceSections([]impl.Object{parted}, 0); !ok || !sameLists(x, [][]int{want}) || e != end {
			t.Errorf("of %v the places are %v up to %d, %v, not %v up to %d", parted, x, e, ok, want, end)
		}
	}
	for kind := code; kind <= blank; kind++ {
		a, b := sizedSection(kind, 1, 3), sizedSection(kind, 4, 6)
		ab, ba := []impl.Object{sectionsOf(a, b)}, []impl.Object{sectionsOf(b, a)}
		if x, _, ok := impl.PlaceSections(ab, 0); !ok || !sameLists(x, [][]int{{0, 4}}) {
			t.Errorf("%v are at %v", ab, x)
		}
		if x, _, ok := impl.PlaceSections(ba, 0); !ok || !sameLists(x, [][]int{{0, 6}}) {
			t.Errorf("%v are at %v", ba, x)
		}
		x, _, ok := impl.PlaceSections([]impl.Object{ba[0], ab[0]}, 0)
		if !ok || !sameLists(x, [][]int{{0, 6}, {9, 12}}) {
			t.Errorf("%v are at %v", []impl.Object{ba[0], ab[0]}, x)
		}
	}
}

// TestEveryAlign has a section of every align behind one of every size, in the same object, in another one, and with sections of other kinds between.
func TestEveryAlign(t *testing.T) {
	for kind := code; kind <= blank; kind++ {
		for _, before := range []int{1, 2, 4, 8} {
			for size := range 49 {
				for _, align := range []int{1, 2, 4, 8} {
					for _, many := range []int{0, 1, 7, 48} {
						a, b := sizedSection(kind, before, size), sizedSection(kind, align, many)
						at := 16 + (size+align-1)/align*align
						others := impl.Object{}
						for other := code; other <= blank; other++ {
							if other != kind {
								others.Sections = append(others.Sections, sizedSection(other, 8, 0))
							}
						}
						list := []impl.Object{sectionsOf(a, b)}
						if x, _, ok := impl.PlaceSections(list, 16); !ok || !sameLists(x, [][]int{{16, at}}) {
							t.Errorf("%v are at %v, %v, not at 16 and %d", list, x, ok, at)
						}
						if x := impl.KindEnds(list, 16); len(x) != 3 || !slices.Equal(x[kind-code], []int{16, at + many}) {
							t.Errorf("the kinds of %v are in %v, not up to %d", list, x, at+many)
						}
						list = []impl.Object{sectionsOf(a), others, {}, sectionsOf(b)}
						if x, _, ok := impl.PlaceSections(list, 16); !ok || !slices.Equal(x[0], []int{16}) || !slices.Equal(x[3], []int{at}) {
							t.Errorf("%v are at %v, %v, not at 16 and %d", list, x, ok, at)
						}
					}
				}
			}
		}
	}
}

// TestEverySizeOfEveryKind has a section of every size and align of one kind ahead of the other kinds, with sections and without.
func TestEverySizeOfEveryKind(t *testing.T) {
	for size := range 49 {
		for _, align := range []int{1, 2, 4, 8} {
			one, two, three := sizedSection(code, align, size), sizedSection(data, align, size), sizedSection(blank, align, size)
			up := upTo8(size)
			checkPlacedAt(t, "code", []impl.Object{sectionsOf(one)}, 0, placed{[][]int{{0}}, [][]int{{0, size}, {up, up}, {up, up}}, up})
			checkPlacedAt(t, "data", []impl.Object{sectionsOf(two)}, 0, placed{[][]int{{0}}, [][]int{{0, 0}, {0, size}, {up, up}}, up})
			checkPlacedAt(t, "blank", []impl.Object{sectionsOf(three)}, 0, placed{[][]int{{0}}, [][]int{{0, 0}, {0, 0}, {0, size}}, size})
			checkPlacedAt(t, "code and data", []impl.Object{sectionsOf(two, one)}, 0, placed{[][]int{{up, 0}}, [][]int{{0, size}, {up, up + size}, {2 * up, 2 * up}}, 2 * up})
			checkPlacedAt(t, "code and blank", []impl.Object{sectionsOf(three), sectionsOf(one)}, 0, placed{[][]int{{up}, {0}}, [][]int{{0, size}, {up, up}, {up, up + size}}, up + size})
			checkPlacedAt(t, "data and blank", []impl.Object{sectionsOf(three, two)}, 0, placed{[][]int{{up, 0}}, [][]int{{0, 0}, {0, size}, {up, up + size}}, up + size})
			checkPlacedAt(t, "all kinds", []impl.Object{sectionsOf(three), sectionsOf(two), sectionsOf(one)}, 0, placed{[][]int{{2 * up}, {up}, {0}}, [][]int{{0, size}, {up, up + size}, {2 * up, 2*up + size}}, 2*up + size})
		}
	}
}

// TestAsManySectionsAsThereMayBe fills four objects with eight sections each.
func TestAsManySectionsAsThereMayBe(t *testing.T) {
	for kind := code; kind <= blank; kind++ {
		for _, align := range []int{1, 2, 4, 8} {
			for size := range 49 {
				o := sectionsOf(slices.Repeat([]impl.Section{sizedSection(kind, align, size)}, 8)...)
				step := (size + align - 1) / align * align
				for many := 1; many <= 4; many++ {
					list := slices.Repeat([]impl.Object{o}, many)
					places, end, ok := impl.PlaceSections(list, 4096)
					want := 4096
					for _, p := range slices.Concat(places...) {
						if p != want {
							t.Fatalf("of %v the places are %v", list, places)
						}
						want += step
					}
					want += size - step
					pair := []int{4096, want}
					if x := impl.KindEnds(list, 4096); len(x) != 3 || !slices.Equal(x[kind-code], pair) {
						t.Errorf("the kinds of %v are in %v, not in %v", list, x, pair)
					}
					if kind != blank {
						want = upTo8(want)
					}
					if !ok || end != want || len(places) != many || len(slices.Concat(places...)) != 8*many {
						t.Errorf("%v are at %v up to %d, %v, not up to %d", list, places, end, ok, want)
					}
				}
			}
		}
	}
	four := slices.Repeat([]impl.Object{greatestObject()}, 4)
	if _, end, ok := impl.PlaceSections(four, 4096); !ok || end != 4096+4*8*48 {
		t.Errorf("the greatest objects end at %d, %v", end, ok)
	}
}

func TestHowManyObjectsArePlaced(t *testing.T) {
	for _, o := range append(someObjects(), greatestObject(), endsObject(), sameNamesObject()) {
		for many := range 5 {
			for _, base := range someBases {
				checkPlaced(t, slices.Repeat([]impl.Object{o}, many), base)
			}
		}
		for _, many := range []int{5, 6, 7, 8, 9, 16, 255, 256, 257, 260} {
			for _, base := range []int{0, 4096, -8, 4} {
				checkNotPlaced(t, fmt.Sprintf("%d objects", many), base, slices.Repeat([]impl.Object{o}, many)...)
			}
		}
	}
	checkNotPlaced(t, "65536 objects", 0, make([]impl.Object, 65536)...)
	o := oneObject()
	checkNotPlaced(t, "an empty object behind four", 0, o, o, o, o, impl.Object{})
	checkNotPlaced(t, "an empty object before four", 0, impl.Object{}, o, o, o, o)
	checkNotPlaced(t, "five objects without sections", 0, slices.Repeat([]impl.Object{symbolsOf(fixedSymbols(2)...)}, 5)...)
}

// TestObjectsWithoutSections puts objects without sections at every place among others, which changes no place.
func TestObjectsWithoutSections(t *testing.T) {
	for _, list := range someLists()[:400] {
		for _, o := range []impl.Object{{}, {Sections: []impl.Section{}}, symbolsOf(fixedSymbols(12)...)} {
			for first := range len(list) + 1 {
				for second := first; second <= len(list) && len(list) <= 2; second++ {
					want := placedOf(list, 8)
					want.places = slices.Insert(want.places, second, []int(nil))
					want.places = slices.Insert(want.places, first, []int(nil))
					with := slices.Insert(slices.Insert(slices.Clone(list), second, o), first, o)
					checkPlacedAt(t, "with two objects without sections", with, 8, want)
				}
				if len(list) == 3 {
					want := placedOf(list, 8)
					want.places = slices.Insert(want.places, first, []int(nil))
					checkPlacedAt(t, "with an object without sections", slices.Insert(slices.Clone(list), first, o), 8, want)
				}
			}
		}
	}
	for many := range 5 {
		for _, base := range someBases {
			list := slices.Repeat([]impl.Object{symbolsOf(fixedSymbols(3)...)}, many)
			pair := []int{base, base}
			checkPlacedAt(t, "no sections", list, base, placed{make([][]int, many), [][]int{pair, pair, pair}, base})
		}
	}
}

// TestLaterObjectsMoveOnlyWhatIsBehind says that the code of objects does not move if there are more objects behind them.
func TestLaterObjectsMoveOnlyWhatIsBehind(t *testing.T) {
	for _, list := range someLists()[:1000] {
		all, _, _ := impl.PlaceSections(list, 8)
		for many := range list {
			part, _, _ := impl.PlaceSections(list[:many], 8)
			for in, o := range list[:many] {
				for at, s := range o.Sections {
					if s.Kind == code && part[in][at] != all[in][at] || part[in][at] > all[in][at] {
						t.Errorf("with more objects section %d of object %d of %v is at %d, not at %d", at, in, list, all[in][at], part[in][at])
					}
				}
			}
		}
	}
}

// TestOnlyKindsAlignsAndSizesMatter changes all else of objects, which moves no section.
func TestOnlyKindsAlignsAndSizesMatter(t *testing.T) {
	for _, list := range someLists()[:1000] {
		var bare []impl.Object
		for in, o := range list {
			x := impl.Object{Symbols: fixedSymbols(in)}
			for at, s := range o.Sections {
				bytes := slices.Repeat([]byte{byte(255 - at)}, len(s.Bytes))
				x.Sections = append(x.Sections, impl.Section{Name: "other", Kind: s.Kind, Align: s.Align, Bytes: bytes, Size: s.Size})
			}
			bare = append(bare, x)
		}
		checkPlacedAt(t, "all else changed", bare, 16, placedOf(list, 16))
	}
}

// TestNamesThatClashDoNotMatter places objects that give names twice, and such that miss names.
func TestNamesThatClashDoNotMatter(t *testing.T) {
	twice := impl.Object{Sections: []impl.Section{filledSection(3)}, Symbols: fixedSymbols(3)}
	list := []impl.Object{twice, oneObject(), twice, oneObject()}
	if len(impl.NamesTwice(list)) == 0 || len(impl.NamesMissing(list)) == 0 {
		t.Error("no name is given twice, or none is missing")
	}
	checkPlacedAt(t, "names that clash", list, 0, placed{[][]int{{0}, {4}, {10}, {16}}, [][]int{{0, 22}, {24, 24}, {24, 24}}, 24})
}

// wrongSections are sections that are not valid in an object without symbols, many of them by one number alone.
func wrongSections() []impl.Section {
	var list []impl.Section
	for kind := code; kind <= blank; kind++ {
		for _, n := range append([]int{-9, -8, -4, -2, -1, 0, 3, 5, 6, 7, 9, 10, 12, 16, 24, 32, 64, 256}, farInts...) {
			list = append(list, sizedSection(kind, n, 5))
		}
		for _, name := range wrongNames() {
			s := sizedSection(kind, 8, 5)
			s.Name = name
			list = append(list, s)
		}
		s := sizedSection(kind, 1, 4)
		s.Fixups = fixupsOf(impl.FixupNear, 0)
		list = append(list, s)
	}
	for _, kind := range append([]int{-3, -2, -1, 0, 4, 5, 6, 8, 255, 256, 257, 258, 259}, farInts...) {
		list = append(list, impl.Section{Name: "kind", Kind: kind, Align: 8}, impl.Section{Name: "kind", Kind: kind, Align: 8, Bytes: []byte{1}})
	}
	for _, n := range append([]int{-48, -8, -1, 49, 50, 56, 64, 255, 256}, farInts...) {
		list = append(list, sizedSection(blank, 8, n))
	}
	for _, n := range append([]int{-48, -8, -5, -1, 1, 5, 8, 48}, farInts...) {
		for kind := code; kind <= data; kind++ {
			list = append(list, impl.Section{Name: "sized", Kind: kind, Align: 8, Bytes: make([]byte, 5), Size: n}, impl.Section{Name: "sized", Kind: kind, Align: 8, Size: n})
		}
	}
	for _, n := range []int{49, 50, 56, 64, 255, 256, 65536} {
		list = append(list, sizedSection(code, 8, n), sizedSection(data, 8, n))
	}
	for _, n := range []int{1, 8, 48, 49} {
		list = append(list, impl.Section{Name: "sized", Kind: blank, Align: 8, Bytes: make([]byte, n)}, impl.Section{Name: "sized", Kind: blank, Align: 8, Bytes: make([]byte, n), Size: n})
	}
	return list
}

// TestOneWrongSection puts a section that is not valid at every place of objects.
func TestOneWrongSection(t *testing.T) {
	good := []impl.Section{sizedSection(code, 4, 5), sizedSection(data, 2, 3), sizedSection(blank, 8, 48)}
	for _, wrong := range wrongSections() {
		for at := range len(good) + 1 {
			o := sectionsOf(slices.Insert(slices.Clone(good), at, wrong)...)
			for _, base := range []int{0, 8, 4096, 4} {
				checkNotPlaced(t, "a wrong section", base, o)
				for in := range 4 {
					list := slices.Repeat([]impl.Object{sectionsOf(good...)}, 4)
					list[in] = o
					checkNotPlaced(t, "a wrong section of one of four objects", base, list...)
				}
			}
		}
	}
}

// TestWrongObjectsAreNotPlaced puts an object that is not valid at every place among valid ones.
func TestWrongObjectsAreNotPlaced(t *testing.T) {
	beside := kindsObject(0, code, data, blank)
	for what, o := range notValidObjects() {
		for _, base := range []int{0, 8, 4096, -8, 4, 4104} {
			checkNotPlaced(t, what, base, o)
			for many := 1; many <= 3; many++ {
				for at := range many + 1 {
					checkNotPlaced(t, fmt.Sprintf("%s at %d of %d", what, at, many+1), base, slices.Insert(slices.Repeat([]impl.Object{beside}, many), at, o)...)
				}
			}
			checkNotPlaced(t, what+" four times", base, o, o, o, o)
			checkNotPlaced(t, what+" behind objects without sections", base, impl.Object{}, impl.Object{}, impl.Object{}, o)
			checkNotPlaced(t, what+" at the end of five", base, beside, beside, impl.Object{}, impl.Object{}, o)
		}
	}
}

// TestWrongBasesPlaceNothing has bases that are wrong for all valid objects.
func TestWrongBasesPlaceNothing(t *testing.T) {
	for _, list := range someLists()[:700] {
		for _, base := range wrongBases {
			checkNotPlaced(t, "a wrong base", base, list...)
		}
	}
}

// checkListsApart says that no list shares memory with another one.
func checkListsApart(t *testing.T, what string, lists [][]int) {
	t.Helper()
	was := cloneLists(lists)
	for i := range lists {
		fillUp(lists[i], -77-i)
		fillUp(was[i], -77-i)
		if !sameLists(lists, was) {
			t.Fatalf("%s: a change of the list %d of %v changes another one", what, i, was)
		}
	}
}

// TestPlacesHaveTheirOwnMemory changes what the functions return, and what they were given.
func TestPlacesHaveTheirOwnMemory(t *testing.T) {
	for _, given := range append(someLists()[:600], slices.Repeat([]impl.Object{kindsObject(0, code, data, blank, code)}, 4)) {
		list := roomyList(given)
		want := placedOf(given, 8)
		first, _, _ := impl.PlaceSections(list, 8)
		places, end, _ := impl.PlaceSections(list, 8)
		pairs, ends := impl.KindEnds(list, 8), impl.KindEnds(list, 8)
		checkListsApart(t, "places", first)
		checkListsApart(t, "ends", pairs)
		fillUp(first, []int{77})
		fillUp(pairs, []int{77})
		if !sameLists(places, want.places) || !sameLists(ends, want.ends) {
			t.Errorf("the results for %v share memory with others", given)
		}
		checkPlaced(t, list, 8)
		checkLeftAlone(t, list, given)
		spoilList(list)
		if !sameLists(places, want.places) || end != want.end || !sameLists(ends, want.ends) {
			t.Errorf("the results change with the objects %v", given)
		}
	}
}

// TestSectionsBehindTheLengthAreNotPlaced says that lists of objects and of sections end with their length.
func TestSectionsBehindTheLengthAreNotPlaced(t *testing.T) {
	o := kindsObject(3, code, blank, data, code, data, blank, code, data)
	list := append(slices.Repeat([]impl.Object{o}, 4), sectionsOf(sizedSection(4, 3, 60)), impl.Object{})
	for many := range 5 {
		checkPlaced(t, list[:many], 8)
		for length := range 9 {
			short := impl.Object{Sections: o.Sections[:length]}
			checkPlaced(t, slices.Repeat([]impl.Object{short}, many), 8)
		}
	}
	for size := range 49 {
		// There are more bytes behind those of the section.
		s := sizedSection(code, 1, 48)
		s.Bytes = s.Bytes[:size]
		checkPlacedAt(t, "bytes with room behind them", []impl.Object{sectionsOf(s, s)}, 0, placed{[][]int{{0, size}}, [][]int{{0, 2 * size}, {upTo8(2 * size), upTo8(2 * size)}, {upTo8(2 * size), upTo8(2 * size)}}, upTo8(2 * size)})
	}
	checkNotPlaced(t, "what stands behind the length", 8, list...)
}

// TestPlacingDoesNotRemember calls the functions with one list and another one, in turn.
func TestPlacingDoesNotRemember(t *testing.T) {
	lists := someLists()[:200]
	for range 2 {
		for i, list := range lists {
			checkPlaced(t, list, 4096)
			checkNotPlaced(t, "five objects", 0, make([]impl.Object, 5)...)
			checkPlaced(t, lists[len(lists)-1-i], 0)
			checkNotPlaced(t, "a wrong base", 4100, list...)
			checkPlaced(t, list, 8)
		}
	}
}
