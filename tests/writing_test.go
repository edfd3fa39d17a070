package tests

import (
	"bytes"
	"reflect"
	"slices"
	"testing"

	"loop.example/objectlinker/impl"
)

// twoBytes writes a number in two bytes.
func twoBytes(n int) []byte {
	return []byte{byte(n % 256), byte(n / 256)}
}

// namesIn returns the names of the sections and then of the symbols of an object.
func namesIn(o impl.Object) []string {
	var names []string
	for _, s := range o.Sections {
		names = append(names, s.Name)
	}
	for _, s := range o.Symbols {
		names = append(names, s.Name)
	}
	return names
}

// objectBytes writes a valid object byte by byte, as the document tells it.
func objectBytes(o impl.Object) []byte {
	table := tableOf(namesIn(o))
	place := func(name string) []byte { return twoBytes(bytes.Index(table, []byte(name+"\x00"))) }
	var sections, symbols, fixups, filled []byte
	for _, s := range o.Sections {
		size := len(s.Bytes)
		if s.Kind == impl.SectionBlank {
			size = s.Size
		}
		sections = append(append(sections, place(s.Name)...), byte(s.Kind), byte(s.Align), byte(size), byte(len(s.Fixups)))
		for _, f := range s.Fixups {
			fixups = append(append(fixups, byte(f.At), byte(f.Kind), byte(f.To)), twoBytes(f.Add+1000)...)
		}
		filled = append(filled, s.Bytes...)
	}
	for _, s := range o.Symbols {
		symbols = append(append(append(symbols, place(s.Name)...), byte(s.Bind), byte(s.Where+2)), twoBytes(s.Value)...)
	}
	header := []byte{'o', 'b', 'j', 1, byte(len(o.Sections)), byte(len(o.Symbols)), byte(len(fixups) / 5), byte(len(table) % 256), byte(len(table) / 256), 0}
	return slices.Concat(header, sections, symbols, fixups, table, filled)
}

// checkWritten holds the bytes and the length of a valid object against what they should be.
func checkWritten(t *testing.T, o impl.Object) {
	t.Helper()
	if !impl.ObjectValid(o) {
		t.Errorf("%v is not valid", o)
		return
	}
	want := objectBytes(o)
	if x := impl.WriteObject(o); !bytes.Equal(x, want) {
		t.Errorf("%v is written as %q, not as %q", o, x, want)
	}
	if x := impl.ObjectLength(o); x != len(want) {
		t.Errorf("the length of %v is %d, not %d", o, x, len(want))
	}
}

// checkNotWritten says that an object is not valid and has neither bytes nor a length.
func checkNotWritten(t *testing.T, o impl.Object) {
	t.Helper()
	if impl.ObjectValid(o) {
		t.Errorf("%v is valid", o)
	}
	if x := impl.WriteObject(o); x != nil {
		t.Errorf("%v is not valid and is written as %q", o, x)
	}
	if x := impl.ObjectLength(o); x != 0 {
		t.Errorf("%v is not valid and has the length %d", o, x)
	}
}

// sectionsOf returns an object with these sections and no symbols.
func sectionsOf(sections ...impl.Section) impl.Object {
	return impl.Object{Sections: sections}
}

// bytesFrom returns many bytes that count on from the first one.
func bytesFrom(first, many int) []byte {
	var b []byte
	for i := range many {
		b = append(b, byte(first+i))
	}
	return b
}

// wideObject is an object with three sections, three symbols and three fixups, in which the numbers differ.
func wideObject() impl.Object {
	return impl.Object{
		Sections: []impl.Section{
			{Name: "text", Kind: impl.SectionCode, Align: 4, Bytes: []byte{0, 0, 7, 8, 9, 0}, Fixups: []impl.Fixup{{At: 0, Kind: impl.FixupShort, To: 1, Add: -1000}, {At: 5, Kind: impl.FixupNear, To: 2, Add: 1000}}},
			{Name: "bss", Kind: impl.SectionBlank, Align: 8, Size: 48},
			{Name: "data", Kind: impl.SectionData, Align: 2, Bytes: []byte{255, 128, 1, 0}, Fixups: []impl.Fixup{{At: 0, Kind: impl.FixupLong, To: 0, Add: 5}}},
		},
		Symbols: []impl.Symbol{
			{Name: "main", Bind: strong, Where: 0, Value: 2},
			{Name: "ext", Bind: weak, Where: none},
			{Name: "in", Bind: local, Where: fixed, Value: 60000},
		},
	}
}

// greatestObject is a valid object with as many bytes as one may have.
func greatestObject() impl.Object {
	var o impl.Object
	for i, name := range manyNames(12, "symbo") {
		// All names have MaxName bytes, and none is the end of another one.
		name = (name + "_____")[:8]
		o.Symbols = append(o.Symbols, impl.Symbol{Name: name, Bind: i % 3, Where: i % 8, Value: 48 - i})
	}
	for i, name := range manyNames(8, "section") {
		s := impl.Section{Name: name, Kind: impl.SectionCode + i%2, Align: 1 << (i % 4), Bytes: bytesFrom(48*i, 48)}
		for k := range 6 {
			s.Fixups = append(s.Fixups, impl.Fixup{At: 8*k + i%4, Kind: 1 + (i+k)%3, To: (6*i + k) % 12, Add: 41*(6*i+k) - 1000})
		}
		o.Sections = append(o.Sections, s)
	}
	return o
}

// endsObject is an object with as many sections and symbols as there may be, whose names share their ends or are the same.
func endsObject() impl.Object {
	var o impl.Object
	for i, name := range []string{"main", "in", "n", "main", "in", "x_in", "b", "ab"} {
		s := filledSection(i)
		s.Name, s.Bytes = name, bytesFrom(16*i, i)
		o.Sections = append(o.Sections, s)
	}
	for i, name := range []string{"ain", "in", "in", "in", "main", "n", "cab", "b", "_in", "ab", "domain", "in"} {
		o.Symbols = append(o.Symbols, impl.Symbol{Name: name, Where: i % 8, Value: i % 8})
	}
	return o
}

// mixedObject returns a valid object that depends on a number, with sections of all kinds and symbols of all places.
func mixedObject(n int) impl.Object {
	// A short rule stands in for a random source, so that a failing object can be made again.
	next := func(below int) int {
		n = (n*1103515245 + 12345) & 0x7fffffff
		return (n >> 8) % below
	}
	var o impl.Object
	names := []string{"a", "ba", "cba", "main", "in", "text", "ext", "_", "x.1", "abcdefgh", "efgh", "z9"}
	symbols := next(13)
	for range next(9) {
		s := impl.Section{Name: names[next(12)], Kind: 1 + next(3), Align: 1 << next(4)}
		if s.Kind == impl.SectionBlank {
			s.Size = next(49)
		} else {
			s.Bytes = bytesFrom(next(256), next(49))
		}
		for at := next(5); symbols > 0 && len(s.Fixups) < 6 && at+4 <= len(s.Bytes); at += 4 + next(9) {
			s.Fixups = append(s.Fixups, impl.Fixup{At: at, Kind: 1 + next(3), To: next(symbols), Add: next(2001) - 1000})
		}
		o.Sections = append(o.Sections, s)
	}
	for i := range symbols {
		s := impl.Symbol{Name: names[i], Bind: 1 + next(2), Where: next(len(o.Sections)+2) - 2}
		switch {
		case s.Where == fixed:
			s.Value = next(60001)
		case s.Where >= 0:
			s.Value = next(impl.SectionSize(o.Sections[s.Where]) + 1)
		}
		if s.Where != none && next(3) == 0 {
			s.Bind, s.Name = local, names[next(12)]
		}
		o.Symbols = append(o.Symbols, s)
	}
	return o
}

// writtenObjects are valid objects.
func writtenObjects() []impl.Object {
	list := append(someObjects(), wideObject(), greatestObject(), endsObject())
	for n := range 2000 {
		list = append(list, mixedObject(n))
	}
	return list
}

// Promise 44: lengths are lengths.
func TestPromise44(t *testing.T) {
	for _, o := range writtenObjects() {
		b := impl.WriteObject(o)
		if x := impl.ObjectLength(o); x != len(b) || x < 11 {
			t.Errorf("the length of %v is %d, and it has %d bytes", o, x, len(b))
		}
	}
	for _, o := range wrongObjects() {
		if x, b := impl.ObjectLength(o), impl.WriteObject(o); x != 0 || len(b) != 0 {
			t.Errorf("the length of %v is %d, and it has %d bytes", o, x, len(b))
		}
	}
}

func TestObjectsAreWritten(t *testing.T) {
	for _, o := range writtenObjects() {
		checkWritten(t, o)
	}
}

func TestLengthsOfObjects(t *testing.T) {
	for _, c := range []struct {
		what   string
		o      impl.Object
		length int
	}{
		{"nothing", impl.Object{}, 11},
		{"a section without bytes", sectionsOf(blankSection(48)), 10 + 6 + 5},
		{"a section with no bytes", sectionsOf(filledSection(0)), 10 + 6 + 6},
		{"a section with one byte", sectionsOf(filledSection(1)), 10 + 6 + 6 + 1},
		{"a section with MaxBytes", sectionsOf(filledSection(48)), 10 + 6 + 6 + 48},
		{"a symbol", symbolsOf(fixedSymbols(1)...), 10 + 6 + 4},
		{"symbols with the same name", symbolsOf(impl.Symbol{Name: "a", Where: fixed}, impl.Symbol{Name: "a", Where: fixed}), 10 + 12 + 3},
		{"symbols that share their ends", symbolsOf(impl.Symbol{Name: "a", Where: fixed}, impl.Symbol{Name: "ba", Where: fixed}), 10 + 12 + 4},
		{"one object", oneObject(), 55},
		{"a wide object", wideObject(), 91},
		{"the greatest object", greatestObject(), 10 + 6*8 + 6*12 + 5*48 + 1 + 9*20 + 8*48},
	} {
		if x := impl.ObjectLength(c.o); x != c.length {
			t.Errorf("the length of %s is %d, not %d", c.what, x, c.length)
		}
		if x := len(impl.WriteObject(c.o)); x != c.length {
			t.Errorf("%s has %d bytes, not %d", c.what, x, c.length)
		}
	}
}

// toldObject is an object, and its bytes as a text.
type toldObject struct {
	what string
	o    impl.Object
	text string
}

// toldObjects are valid objects whose bytes are told.
func toldObjects() []toldObject {
	return []toldObject{
		{"nothing", impl.Object{}, "obj\x01\x00\x00\x00\x01\x00\x00" + "\x00"},
		{"empty lists", impl.Object{Sections: []impl.Section{}, Symbols: []impl.Symbol{}}, "obj\x01\x00\x00\x00\x01\x00\x00" + "\x00"},
		{"a blank section", sectionsOf(blankSection(5)), "obj\x01\x01\x00\x00\x05\x00\x00" + "\x01\x00\x03\x08\x05\x00" + "\x00buf\x00"},
		{"two sections", sectionsOf(impl.Section{Name: "x", Kind: 2, Align: 2, Bytes: []byte("zyx")}, impl.Section{Name: "ax", Kind: 1, Align: 1, Bytes: []byte("ab")}), "obj\x01\x02\x00\x00\x04\x00\x00" + "\x02\x00\x02\x02\x03\x00" + "\x01\x00\x01\x01\x02\x00" + "\x00ax\x00" + "zyxab"},
		{"two symbols", symbolsOf(impl.Symbol{Name: "b", Bind: weak, Where: none}, impl.Symbol{Name: "a", Where: fixed, Value: 513}), "obj\x01\x00\x02\x00\x05\x00\x00" + "\x03\x00\x02\x01\x00\x00" + "\x01\x00\x00\x00\x01\x02" + "\x00a\x00b\x00"},
		{"a section and a symbol with one name", impl.Object{Sections: []impl.Section{filledSection(1)}, Symbols: []impl.Symbol{{Name: "code", Bind: strong, Value: 1}}}, "obj\x01\x01\x01\x00\x06\x00\x00" + "\x01\x00\x01\x01\x01\x00" + "\x01\x00\x01\x02\x01\x00" + "\x00code\x00" + "\x00"},
		{"the first place of a name", symbolsOf(impl.Symbol{Name: "xin", Where: fixed}, impl.Symbol{Name: "in", Where: fixed}, impl.Symbol{Name: "main", Where: fixed}), "obj\x01\x00\x03\x00\x0a\x00\x00" + "\x06\x00\x00\x00\x00\x00" + "\x03\x00\x00\x00\x00\x00" + "\x01\x00\x00\x00\x00\x00" + "\x00main\x00xin\x00"},
		{"one object", oneObject(), "obj\x01\x01\x02\x01\x10\x00\x00" + "\x01\x00\x01\x04\x06\x01" + "\x06\x00\x01\x02\x00\x00" + "\x0b\x00\x01\x01\x00\x00" + "\x01\x03\x01\xec\x03" + "\x00code\x00main\x00puts\x00" + "\x00\x00\x00\x00\x00\x00"},
	}
}

func TestBytesOfObjects(t *testing.T) {
	for _, c := range toldObjects() {
		if x := impl.WriteObject(c.o); string(x) != c.text {
			t.Errorf("%s is written as %q", c.what, x)
		}
		if x := impl.ObjectLength(c.o); x != len(c.text) {
			t.Errorf("the length of %s is %d", c.what, x)
		}
	}
}

// TestEachByteOfAnObject tells the bytes of an object one by one.
func TestEachByteOfAnObject(t *testing.T) {
	told := []struct {
		b    byte
		what string
	}{
		{'o', "the first letter"}, {'b', "the second letter"}, {'j', "the third letter"}, {1, "the byte 1"},
		{3, "the number of sections"}, {3, "the number of symbols"}, {3, "the number of fixups"}, {20, "the length of the table"}, {0, "the second byte of the length"}, {0, "the end of the header"},
		{15, "the place of text"}, {0, "its second byte"}, {1, "the kind of text"}, {4, "the align of text"}, {6, "the size of text"}, {2, "the fixups of text"},
		{1, "the place of bss"}, {0, "its second byte"}, {3, "the kind of bss"}, {8, "the align of bss"}, {48, "the size of bss"}, {0, "the fixups of bss"},
		{5, "the place of data"}, {0, "its second byte"}, {2, "the kind of data"}, {2, "the align of data"}, {4, "the size of data"}, {1, "the fixups of data"},
		{10, "the place of main"}, {0, "its second byte"}, {1, "the binding of main"}, {2, "where main is"}, {2, "the value of main"}, {0, "its second byte"},
		{16, "the place of ext"}, {0, "its second byte"}, {2, "the binding of ext"}, {1, "where ext is"}, {0, "the value of ext"}, {0, "its second byte"},
		{12, "the place of in"}, {0, "its second byte"}, {0, "the binding of in"}, {0, "where in is"}, {96, "the value of in"}, {234, "its second byte"},
		{0, "where the first fixup is"}, {2, "its kind"}, {1, "its symbol"}, {0, "its number"}, {0, "the second byte of the number"},
		{5, "where the second fixup is"}, {1, "its kind"}, {2, "its symbol"}, {208, "its number"}, {7, "the second byte of the number"},
		{0, "where the third fixup is"}, {3, "its kind"}, {0, "its symbol"}, {237, "its number"}, {3, "the second byte of the number"},
		{0, "the beginning of the table"},
		{'b', "bss"}, {'s', "bss"}, {'s', "bss"}, {0, "its end"}, {'d', "data"}, {'a', "data"}, {'t', "data"}, {'a', "data"}, {0, "its end"},
		{'m', "main"}, {'a', "main"}, {'i', "main"}, {'n', "main"}, {0, "its end"}, {'t', "text"}, {'e', "text"}, {'x', "text"}, {'t', "text"}, {0, "its end"},
		{0, "the first byte of text"}, {0, "the second one"}, {7, "the third one"}, {8, "the fourth one"}, {9, "the fifth one"}, {0, "the last one"},
		{255, "the first byte of data"}, {128, "the second one"}, {1, "the third one"}, {0, "the last one"},
	}
	b := impl.WriteObject(wideObject())
	if len(b) != len(told) || impl.ObjectLength(wideObject()) != len(told) {
		t.Fatalf("the object has %d bytes, and its length is %d, not %d", len(b), impl.ObjectLength(wideObject()), len(told))
	}
	for i, c := range told {
		if b[i] != c.b {
			t.Errorf("at %d %s is %d, not %d", i, c.what, b[i], c.b)
		}
	}
}

// TestChangesChangeTheirBytes says which bytes differ if one thing in an object is another one.
func TestChangesChangeTheirBytes(t *testing.T) {
	for i, c := range []struct {
		change func(o impl.Object)
		at     []int
	}{
		{func(o impl.Object) {}, nil},
		{func(o impl.Object) { o.Sections[0].Kind = impl.SectionData }, []int{12}},
		{func(o impl.Object) { o.Sections[0].Align = 8 }, []int{13}},
		{func(o impl.Object) { o.Sections[1].Align = 1 }, []int{19}},
		{func(o impl.Object) { o.Sections[1].Size = 0 }, []int{20}},
		{func(o impl.Object) { o.Sections[1].Size = 47 }, []int{20}},
		{func(o impl.Object) { o.Sections[2].Name = "text" }, []int{7, 10, 22, 28, 34, 40}},
		{func(o impl.Object) { o.Sections[2].Kind = impl.SectionCode }, []int{24}},
		{func(o impl.Object) { o.Symbols[0].Bind = weak }, []int{30}},
		{func(o impl.Object) { o.Symbols[0].Where = 2 }, []int{31}},
		{func(o impl.Object) { o.Symbols[0].Value = 6 }, []int{32}},
		{func(o impl.Object) { o.Symbols[0].Where, o.Symbols[0].Value = fixed, 258 }, []int{31, 33}},
		{func(o impl.Object) { o.Symbols[1].Bind = strong }, []int{36}},
		{func(o impl.Object) { o.Symbols[1].Name = "n" }, []int{34}},
		{func(o impl.Object) { o.Symbols[2].Name = "main" }, []int{40}},
		{func(o impl.Object) { o.Symbols[2].Bind = weak }, []int{42}},
		{func(o impl.Object) { o.Symbols[2].Where, o.Symbols[2].Value = 1, 48 }, []int{43, 44, 45}},
		{func(o impl.Object) { o.Symbols[2].Value = 59999 }, []int{44}},
		{func(o impl.Object) { o.Symbols[2].Value = 59744 }, []int{45}},
		{func(o impl.Object) { o.Sections[0].Fixups[0].At = 1 }, []int{46}},
		{func(o impl.Object) { o.Sections[0].Fixups[0].Kind = impl.FixupLong }, []int{47}},
		{func(o impl.Object) { o.Sections[0].Fixups[0].To = 0 }, []int{48}},
		{func(o impl.Object) { o.Sections[0].Fixups[0].Add = -999 }, []int{49}},
		{func(o impl.Object) { o.Sections[0].Fixups[0].Add = -744 }, []int{50}},
		{func(o impl.Object) { o.Sections[0].Fixups[1].Add = 999 }, []int{54}},
		{func(o impl.Object) { o.Sections[2].Fixups[0].Kind = impl.FixupNear }, []int{57}},
		{func(o impl.Object) { o.Sections[0].Bytes[5] = 1 }, []int{86}},
		{func(o impl.Object) { o.Sections[2].Bytes[0] = 0 }, []int{87}},
		{func(o impl.Object) { o.Sections[2].Bytes[3] = 200 }, []int{90}},
	} {
		o := wideObject()
		c.change(o)
		checkWritten(t, o)
		was, b := impl.WriteObject(wideObject()), impl.WriteObject(o)
		var at []int
		// The bytes of the table and those behind it move if a name is another one, and are not looked at then.
		for k := range min(len(was), len(b)) {
			if was[k] != b[k] && (k < 61 || len(was) == len(b)) {
				at = append(at, k)
			}
		}
		if !slices.Equal(at, c.at) {
			t.Errorf("with change %d the bytes at %v are other ones, not those at %v", i, at, c.at)
		}
	}
}

func TestObjectsWithoutSectionsAreWritten(t *testing.T) {
	for many := range 13 {
		o := symbolsOf(fixedSymbols(many)...)
		checkWritten(t, o)
		if x := impl.ObjectLength(o); many <= 10 && x != 11+9*many {
			t.Errorf("with %d symbols the length is %d", many, x)
		}
	}
}

func TestObjectsWithoutSymbolsAreWritten(t *testing.T) {
	for many := range 9 {
		checkWritten(t, sectionsOf(manySections(many)...))
		for _, size := range []int{0, 1, 48} {
			checkWritten(t, sectionsOf(slices.Repeat([]impl.Section{filledSection(size)}, many)...))
			checkWritten(t, sectionsOf(slices.Repeat([]impl.Section{blankSection(size)}, many)...))
		}
	}
}

// TestBlankSectionsAreWrittenWithoutBytes takes sections without bytes of all sizes, alone and among others.
func TestBlankSectionsAreWrittenWithoutBytes(t *testing.T) {
	for size := 0; size <= 48; size++ {
		alone := sectionsOf(blankSection(size))
		checkWritten(t, alone)
		if b := impl.WriteObject(alone); len(b) != 21 || string(b[10:16]) != string([]byte{1, 0, 3, 8, byte(size), 0}) || string(b[16:]) != "\x00buf\x00" {
			t.Errorf("a section without bytes and with the size %d is written as %q", size, b)
		}
		for at := range 3 {
			o := slices.Insert([]impl.Section{
				{Name: "one", Kind: impl.SectionData, Align: 1, Bytes: []byte("first")},
				{Name: "two", Kind: impl.SectionCode, Align: 1, Bytes: []byte("second")},
			}, at, blankSection(size))
			among := sectionsOf(o...)
			checkWritten(t, among)
			b := impl.WriteObject(among)
			if !bytes.HasSuffix(b, []byte("\x00buf\x00one\x00two\x00firstsecond")) || b[10+6*at+4] != byte(size) {
				t.Errorf("at %d with the size %d a section without bytes is written so: %q", at, size, b)
			}
			if x := impl.ObjectLength(among); x != 10+18+13+11 {
				t.Errorf("at %d with the size %d a section without bytes makes the length %d", at, size, x)
			}
		}
	}
}

func TestBytesOfSectionsStandBehindTheTable(t *testing.T) {
	for size := 0; size <= 48; size++ {
		for many := 1; many <= 8; many++ {
			var o impl.Object
			var all []byte
			for i := range many {
				s := filledSection(0)
				s.Bytes = bytesFrom(200+7*i, size)
				o.Sections = append(o.Sections, s)
				all = append(all, s.Bytes...)
			}
			checkWritten(t, o)
			if b := impl.WriteObject(o); !bytes.HasSuffix(b, append([]byte("\x00code\x00"), all...)) || impl.ObjectLength(o) != 10+6*many+6+size*many {
				t.Errorf("%d sections with %d bytes are written as %q", many, size, b)
			}
		}
	}
	// Each byte stays as it is.
	for n := range 256 {
		s := filledSection(3)
		s.Bytes[1] = byte(n)
		if b := impl.WriteObject(sectionsOf(s)); len(b) != 25 || string(b[22:]) != string([]byte{0, byte(n), 0}) {
			t.Errorf("the byte %d is written in %q", n, b)
		}
	}
}

func TestFixupsAreWrittenSectionBySection(t *testing.T) {
	for first := range 7 {
		for second := range 7 {
			var all []byte
			o := impl.Object{Sections: []impl.Section{filledSection(48), blankSection(9), filledSection(48)}, Symbols: fixedSymbols(12)}
			for i, many := range []int{first, 0, second} {
				for k := range many {
					f := impl.Fixup{At: 8*k + i, Kind: 1 + (i+k)%3, To: (k + 5*i) % 12, Add: 300*k - 1000 + i}
					o.Sections[i].Fixups = append(o.Sections[i].Fixups, f)
					all = append(append(all, byte(f.At), byte(f.Kind), byte(f.To)), twoBytes(f.Add+1000)...)
				}
			}
			checkWritten(t, o)
			b := impl.WriteObject(o)
			if b[6] != byte(first+second) || b[15] != byte(first) || b[21] != 0 || b[27] != byte(second) {
				t.Errorf("%d and %d fixups are counted as %d, %d, %d and %d", first, second, b[6], b[15], b[21], b[27])
			}
			if !bytes.Equal(b[100:100+len(all)], all) || b[100+len(all)] != 0 {
				t.Errorf("%d and %d fixups are written in %q", first, second, b)
			}
		}
	}
}

func TestEndsOfFixupsAreWritten(t *testing.T) {
	o := impl.Object{Sections: []impl.Section{filledSection(48)}, Symbols: fixedSymbols(12)}
	for kind := impl.FixupNear; kind <= impl.FixupLong; kind++ {
		for _, at := range []int{0, 1, 44, 48 - impl.FixupWide(kind)} {
			if at+impl.FixupWide(kind) > 48 {
				continue
			}
			for to := range 12 {
				for _, add := range []int{-1000, -999, -745, -744, -1, 0, 1, 23, 24, 279, 280, 999, 1000} {
					o.Sections[0].Fixups = []impl.Fixup{{At: at, Kind: kind, To: to, Add: add}}
					checkWritten(t, o)
				}
			}
		}
	}
	for add := -1000; add <= 1000; add++ {
		o.Sections[0].Fixups = []impl.Fixup{{At: 47, Kind: impl.FixupNear, To: 11, Add: add}}
		want := append([]byte{47, 1, 11}, twoBytes(add+1000)...)
		if b := impl.WriteObject(o); !bytes.Equal(b[88:93], want) {
			t.Errorf("with the number %d a fixup is written as %v", add, b[88:93])
		}
	}
}

func TestEndsOfSymbolsAreWritten(t *testing.T) {
	o := impl.Object{Sections: manySections(8), Symbols: make([]impl.Symbol, 1)}
	o.Sections[0], o.Sections[7] = blankSection(48), filledSection(48)
	for _, c := range []struct {
		where, value int
		text         string
	}{
		{none, 0, "\x01\x00\x00"},
		{fixed, 0, "\x00\x00\x00"},
		{fixed, 1, "\x00\x01\x00"},
		{fixed, 255, "\x00\xff\x00"},
		{fixed, 256, "\x00\x00\x01"},
		{fixed, 32768, "\x00\x00\x80"},
		{fixed, 59999, "\x00\x5f\xea"},
		{fixed, 60000, "\x00\x60\xea"},
		{0, 0, "\x02\x00\x00"},
		{0, 48, "\x02\x30\x00"},
		{1, 1, "\x03\x01\x00"},
		{6, 6, "\x08\x06\x00"},
		{7, 0, "\x09\x00\x00"},
		{7, 47, "\x09\x2f\x00"},
		{7, 48, "\x09\x30\x00"},
	} {
		for bind := local; bind <= weak; bind++ {
			if c.where == none && bind == local {
				continue
			}
			o.Symbols[0] = impl.Symbol{Name: "de", Bind: bind, Where: c.where, Value: c.value}
			checkWritten(t, o)
			// The names are buf and code, of which de is the end.
			if b, want := impl.WriteObject(o), "\x07\x00"+string(byte(bind))+c.text; string(b[58:64]) != want {
				t.Errorf("%v is written as %q, not as %q", o.Symbols[0], b[58:64], want)
			}
		}
	}
	for value := range 60001 {
		o := symbolsOf(impl.Symbol{Name: "s", Where: fixed, Value: value})
		if b := impl.WriteObject(o); !bytes.Equal(b[14:16], twoBytes(value)) {
			t.Errorf("the value %d is written as %v", value, b[14:16])
		}
	}
}

// TestNamesShareTheTable looks up each name of an object in its bytes.
func TestNamesShareTheTable(t *testing.T) {
	for _, o := range writtenObjects() {
		b := impl.WriteObject(o)
		h, ok := impl.GetHeader(b)
		fixups := 0
		for _, s := range o.Sections {
			fixups += len(s.Fixups)
		}
		if !ok || h.Sections != len(o.Sections) || h.Symbols != len(o.Symbols) || h.Fixups != fixups {
			t.Fatalf("%v has the header %v, %v", o, h, ok)
		}
		names := namesIn(o)
		from := 10 + 6*len(names) + 5*fixups
		table := b[from : from+h.Names]
		if !bytes.Equal(table, impl.NameTable(names)) {
			t.Errorf("%v has the table %q", o, table)
		}
		for i, name := range names {
			// Sections and symbols have as many bytes, and begin with the place of the name.
			at := impl.GetNumber(b, 10+6*i, 2)
			if x, ok := impl.NameAt(table, at); !ok || x != name || at != impl.PlaceOf(table, name) {
				t.Errorf("in %v the name %q is %q at %d", o, name, x, at)
			}
		}
	}
	if b := impl.WriteObject(endsObject()); string(b[130:147]) != "\x00cab\x00domain\x00x_in\x00" {
		t.Errorf("the table of names that share their ends is in %q", b)
	}
}

func TestSameNamesStandInTheTableOnce(t *testing.T) {
	for many := range 13 {
		for few := range 9 {
			var o impl.Object
			for range few {
				o.Sections = append(o.Sections, impl.Section{Name: "same", Kind: impl.SectionData, Align: 1})
			}
			for range many {
				o.Symbols = append(o.Symbols, impl.Symbol{Name: "same", Where: fixed})
			}
			checkWritten(t, o)
			want := 10 + 6*few + 6*many + 6
			if few+many == 0 {
				want = 11
			}
			if x := impl.ObjectLength(o); x != want {
				t.Errorf("with %d sections and %d symbols of one name the length is %d", few, many, x)
			}
		}
	}
}

func TestOtherObjectsAreNotWritten(t *testing.T) {
	for _, o := range wrongObjects() {
		checkNotWritten(t, o)
	}
	for _, o := range []impl.Object{
		{Sections: manySections(9)},
		{Sections: slices.Repeat(manySections(1), 300)},
		symbolsOf(fixedSymbols(13)...),
		symbolsOf(fixedSymbols(268)...),
		{Symbols: make([]impl.Symbol, 1)},
		{Sections: make([]impl.Section, 1)},
		sectionsOf(filledSection(49)),
		sectionsOf(blankSection(49)),
		sectionsOf(blankSection(-1)),
		sectionsOf(filledSection(48, fixupsOf(impl.FixupNear, 0)...)),
		{Sections: []impl.Section{filledSection(48, fixupsOf(impl.FixupNear, 0, 1, 2, 3, 4, 5, 6)...)}, Symbols: fixedSymbols(1)},
		{Sections: []impl.Section{filledSection(48, impl.Fixup{Kind: impl.FixupNear, Add: 1001})}, Symbols: fixedSymbols(1)},
		{Sections: []impl.Section{filledSection(48, impl.Fixup{Kind: impl.FixupNear, Add: -1001})}, Symbols: fixedSymbols(1)},
		{Sections: []impl.Section{filledSection(4, impl.Fixup{At: 1, Kind: impl.FixupLong})}, Symbols: fixedSymbols(1)},
		{Sections: []impl.Section{filledSection(4)}, Symbols: []impl.Symbol{{Name: "s", Value: 5}}},
		symbolsOf(impl.Symbol{Name: "s", Where: fixed, Value: 60001}),
		symbolsOf(impl.Symbol{Name: "s", Where: fixed, Value: -1}),
	} {
		checkNotWritten(t, o)
	}
	for _, name := range wrongNames() {
		checkNotWritten(t, symbolsOf(impl.Symbol{Name: name, Where: fixed}))
		checkNotWritten(t, sectionsOf(impl.Section{Name: name, Kind: impl.SectionData, Align: 1}))
	}
	for _, n := range farInts {
		for _, s := range []impl.Symbol{{Name: "s", Bind: n, Where: fixed}, {Name: "s", Where: n}, {Name: "s", Bind: weak, Where: none, Value: n}} {
			checkNotWritten(t, symbolsOf(s))
		}
		for _, f := range []impl.Fixup{{At: n, Kind: 1}, {Kind: n}, {Kind: 1, To: n}, {Kind: 1, Add: n}} {
			checkNotWritten(t, impl.Object{Sections: []impl.Section{filledSection(48, f)}, Symbols: fixedSymbols(12)})
		}
	}
}

// TestDifferentObjectsHaveDifferentBytes says that an object can be told from its bytes.
func TestDifferentObjectsHaveDifferentBytes(t *testing.T) {
	written := map[string]impl.Object{}
	for _, o := range writtenObjects() {
		// Without bytes, sections, symbols or fixups it does not matter how there are none.
		o = cloneObject(o)
		o.Sections, o.Symbols = append([]impl.Section{}, o.Sections...), append([]impl.Symbol{}, o.Symbols...)
		for i := range o.Sections {
			s := &o.Sections[i]
			s.Bytes, s.Fixups = append([]byte{}, s.Bytes...), append([]impl.Fixup{}, s.Fixups...)
		}
		b := string(impl.WriteObject(o))
		if other, twice := written[b]; twice && !reflect.DeepEqual(o, other) {
			t.Errorf("%v and %v have the same bytes", o, other)
		}
		written[b] = o
	}
}

func TestWrittenObjectsAreLeftAlone(t *testing.T) {
	for _, o := range append(writtenObjects(), wrongObjects()...) {
		before := cloneObject(o)
		first, second := impl.WriteObject(o), impl.WriteObject(o)
		want := slices.Clone(second)
		first = first[:cap(first)]
		for i := range first {
			first[i] = 77
		}
		impl.ObjectLength(o)
		if !reflect.DeepEqual(o, before) {
			t.Errorf("%v was changed to %v", before, o)
		}
		if !bytes.Equal(second, want) || !bytes.Equal(impl.WriteObject(o), want) {
			t.Errorf("two results for %v share memory", o)
		}
	}
}
