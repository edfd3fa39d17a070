package tests

import (
	"bytes"
	"reflect"
	"slices"
	"strings"
	"testing"

	"loop.example/objectlinker/impl"
)

// sameSection reports whether two sections are the same, however they have no bytes or no fixups.
func sameSection(a, b impl.Section) bool {
	return a.Name == b.Name && a.Kind == b.Kind && a.Align == b.Align && a.Size == b.Size && bytes.Equal(a.Bytes, b.Bytes) && slices.Equal(a.Fixups, b.Fixups)
}

// sameObject reports whether two objects are the same.
func sameObject(a, b impl.Object) bool {
	return slices.EqualFunc(a.Sections, b.Sections, sameSection) && slices.Equal(a.Symbols, b.Symbols)
}

// objectIn reads an object from bytes, each from the place at which the document tells that it stands.
func objectIn(b []byte) (o impl.Object, ok bool) {
	// A byte that is not there stops all of it, and then there is no object.
	defer func() {
		if recover() != nil {
			o, ok = impl.Object{}, false
		}
	}()
	sections, symbols := int(b[4]), int(b[5])
	fixup := 10 + 6*sections + 6*symbols
	table := fixup + 5*int(b[6])
	filled := table + int(b[7]) + 256*int(b[8])
	names := b[table:filled]
	name := func(at int) string {
		text, _, _ := strings.Cut(string(names[int(b[at])+256*int(b[at+1]):]), "\x00")
		return text
	}
	for at := 10; at < 10+6*sections; at += 6 {
		s := impl.Section{Name: name(at), Kind: int(b[at+2]), Align: int(b[at+3])}
		if s.Kind == impl.SectionBlank {
			s.Size = int(b[at+4])
		} else {
			s.Bytes = slices.Clone(b[filled : filled+int(b[at+4])])
			filled += int(b[at+4])
		}
		for range b[at+5] {
			s.Fixups = append(s.Fixups, impl.Fixup{At: int(b[fixup]), Kind: int(b[fixup+1]), To: int(b[fixup+2]), Add: int(b[fixup+3]) + 256*int(b[fixup+4]) - 1000})
			fixup += 5
		}
		o.Sections = append(o.Sections, s)
	}
	for at := 10 + 6*sections; at < 10+6*sections+6*symbols; at += 6 {
		o.Symbols = append(o.Symbols, impl.Symbol{Name: name(at), Bind: int(b[at+2]), Where: int(b[at+3]) - 2, Value: int(b[at+4]) + 256*int(b[at+5])})
	}
	if !impl.ObjectValid(o) || !bytes.Equal(objectBytes(o), b) {
		return impl.Object{}, false
	}
	return o, true
}

// checkReading holds the object that is read from bytes or lines against the one that they tell, and reports whether there is one.
func checkReading[T byte | string](t *testing.T, from []T, read, told func([]T) (impl.Object, bool), write func(impl.Object) []T) bool {
	t.Helper()
	was := slices.Clone(from)
	want, wanted := told(from)
	o, ok := read(from)
	switch {
	case !slices.Equal(from, was):
		t.Errorf("%q was changed to %q", was, from)
	case ok != wanted:
		t.Errorf("%q is read: %v, not %v", from, ok, wanted)
	case !ok && !reflect.DeepEqual(o, impl.Object{}):
		t.Errorf("%q is refused with %v", from, o)
	case ok && !sameObject(o, want):
		t.Errorf("%q is read as %v, not as %v", from, o, want)
	case ok && !impl.ObjectValid(o):
		t.Errorf("%q is read as %v, which is not valid", from, o)
	case ok && !slices.Equal(write(o), from):
		t.Errorf("%q is read as %v, which is written as %q", from, o, write(o))
	}
	return ok
}

// checkObject holds what is read from bytes against what should be, and reports whether there is an object.
func checkObject(t *testing.T, b []byte) bool {
	t.Helper()
	return checkReading(t, b, impl.ReadObject, objectIn, impl.WriteObject)
}

// checkWrittenBack says that the object that is read from bytes or lines is valid and written as these, and reports whether there is one.
func checkWrittenBack[T byte | string](t *testing.T, from []T, read func([]T) (impl.Object, bool), write func(impl.Object) []T) bool {
	t.Helper()
	o, ok := read(from)
	if ok && !impl.ObjectValid(o) {
		t.Errorf("%q is read as %v, which is not valid", from, o)
	}
	if ok && !slices.Equal(write(o), from) {
		t.Errorf("%q is read as %v, which is written as %q", from, o, write(o))
	}
	return ok
}

// checkReadBack says that the bytes of a valid object are read as this object.
func checkReadBack(t *testing.T, o impl.Object) {
	t.Helper()
	b := impl.WriteObject(o)
	if x, ok := impl.ReadObject(b); !ok || !sameObject(x, o) {
		t.Errorf("%v is written as %q and read as %v, %v", o, b, x, ok)
	}
	if !checkObject(t, b) {
		t.Errorf("%q is refused", b)
	}
}

// checkNotRead says that no object is read from bytes or lines.
func checkNotRead[T byte | string](t *testing.T, what string, from []T, read func([]T) (impl.Object, bool)) {
	t.Helper()
	was := slices.Clone(from)
	if o, ok := read(from); ok || !reflect.DeepEqual(o, impl.Object{}) {
		t.Errorf("%s: %q is read as %v, %v", what, from, o, ok)
	}
	if !slices.Equal(from, was) {
		t.Errorf("%s: %q was changed to %q", what, was, from)
	}
}

// checkRefused says that bytes are not read.
func checkRefused(t *testing.T, what string, b []byte) {
	t.Helper()
	checkNotRead(t, what, b, impl.ReadObject)
}

// blankObject is an object whose sections have no bytes, as many as there may be.
func blankObject() impl.Object {
	var o impl.Object
	for i := range 8 {
		s := blankSection([]int{48, 0, 1, 47}[i%4])
		s.Align = 1 << (i % 4)
		o.Sections = append(o.Sections, s)
	}
	return o
}

// sameNamesObject is an object with as many sections and symbols as there may be, all with the same name.
func sameNamesObject() impl.Object {
	o := blankObject()
	o.Sections[1] = filledSection(2)
	for i := range o.Sections {
		o.Sections[i].Name = "same"
	}
	for i := range 12 {
		o.Symbols = append(o.Symbols, impl.Symbol{Name: "same", Where: i % 8})
	}
	// One of them is seen by others.
	o.Symbols[5].Bind = strong
	return o
}

// edgeObjects are valid objects at the ends of what there may be.
func edgeObjects() []impl.Object {
	list := []impl.Object{
		{},
		{Sections: manySections(1)},
		{Sections: manySections(8)},
		blankObject(),
		sectionsOf(blankSection(0)),
		sectionsOf(blankSection(48)),
		sectionsOf(filledSection(2), blankSection(48), filledSection(3)),
		sectionsOf(blankSection(1), filledSection(48), blankSection(0)),
		symbolsOf(fixedSymbols(1)...),
		symbolsOf(fixedSymbols(12)...),
		symbolsOf(impl.Symbol{Name: "a", Bind: strong, Where: none}),
		symbolsOf(impl.Symbol{Name: "a", Bind: weak, Where: none}, impl.Symbol{Name: "a", Where: fixed, Value: 60000}),
		sameNamesObject(),
		oneObject(),
		wideObject(),
		endsObject(),
		fullObject(),
	}
	for _, size := range []int{0, 1, 48} {
		list = append(list, sectionsOf(filledSection(size)), impl.Object{Sections: []impl.Section{filledSection(size)}, Symbols: []impl.Symbol{{Name: "end", Value: size}}})
	}
	list = append(list,
		impl.Object{Sections: []impl.Section{filledSection(1, fixupsOf(impl.FixupNear, 0)...)}, Symbols: fixedSymbols(1)},
		impl.Object{Sections: []impl.Section{filledSection(48, fixupsOf(impl.FixupLong, 0, 4, 8, 12, 16, 44)...)}, Symbols: fixedSymbols(1)},
		impl.Object{Sections: []impl.Section{filledSection(6, fixupsOf(impl.FixupNear, 0, 1, 2, 3, 4, 5)...), blankSection(3), filledSection(6), filledSection(6, fixupsOf(impl.FixupShort, 0, 2, 4)...)}, Symbols: fixedSymbols(12)},
	)
	return list
}

// otherValues are a few values that a byte may be changed to.
func otherValues(was byte) []byte {
	list := []byte{0, 1, 2, 3, 4, 47, 48, 49, 'a', 'z', 127, 255, was - 1, was + 1}
	for bit := range 8 {
		list = append(list, was^1<<bit)
	}
	return list
}

// Promise 2: written objects can be read.
func TestPromise2(t *testing.T) {
	for _, o := range append(writtenObjects(), edgeObjects()...) {
		checkReadBack(t, o)
		b := impl.WriteObject(o)
		for _, more := range []byte{0, 1, 'o', 255} {
			checkRefused(t, "a byte more", append(slices.Clone(b), more))
		}
	}
}

// Promise 3: read objects can be written.
func TestPromise3(t *testing.T) {
	read, refused := 0, 0
	for n := range 2000 {
		b := impl.WriteObject(mixedObject(n))
		for i := range 40 {
			at := (n + i*(n+7)) % len(b)
			values := otherValues(b[at])
			changed := slices.Clone(b)
			changed[at] = values[(n+3*i)%len(values)]
			if checkWrittenBack(t, changed, impl.ReadObject, impl.WriteObject) {
				read++
			} else {
				refused++
			}
		}
	}
	if read < 10000 || refused < 10000 {
		t.Errorf("%d objects were read and %d refused", read, refused)
	}
}

func TestToldBytesAreRead(t *testing.T) {
	for _, c := range toldObjects() {
		b := []byte(c.text)
		if o, ok := impl.ReadObject(b); !ok || !sameObject(o, c.o) {
			t.Errorf("%s is read as %v, %v", c.what, o, ok)
		}
		checkObject(t, b)
	}
}

func TestEdgesAreRead(t *testing.T) {
	for _, o := range edgeObjects() {
		checkReadBack(t, o)
	}
	for size := range 49 {
		for fixups := range min(size, 6) + 1 {
			s := filledSection(size)
			for k := range fixups {
				s.Fixups = append(s.Fixups, impl.Fixup{At: size - fixups + k, Kind: impl.FixupNear, To: k % 3, Add: 1000 - 400*k})
			}
			checkReadBack(t, impl.Object{Sections: []impl.Section{s}, Symbols: fixedSymbols(3)})
			checkReadBack(t, impl.Object{Sections: []impl.Section{blankSection(size), s, s, blankSection(5), s}, Symbols: fixedSymbols(3)})
		}
	}
	for sections := range 9 {
		for symbols := range 13 {
			o := impl.Object{Sections: manySections(sections), Symbols: fixedSymbols(symbols)}
			checkReadBack(t, o)
			for i := range o.Symbols {
				if sections > 0 {
					o.Symbols[i].Where, o.Symbols[i].Value = i%sections, 0
				}
			}
			checkReadBack(t, o)
		}
	}
}

func TestNumbersAreRead(t *testing.T) {
	for value := range 60001 {
		o := symbolsOf(impl.Symbol{Name: "s", Where: fixed, Value: value})
		if x, ok := impl.ReadObject(impl.WriteObject(o)); !ok || !sameObject(x, o) {
			t.Errorf("the value %d is read in %v, %v", value, x, ok)
		}
	}
	for add := -1000; add <= 1000; add++ {
		o := impl.Object{Sections: []impl.Section{filledSection(48, impl.Fixup{At: 47, Kind: impl.FixupNear, To: 11, Add: add})}, Symbols: fixedSymbols(12)}
		if x, ok := impl.ReadObject(impl.WriteObject(o)); !ok || !sameObject(x, o) {
			t.Errorf("the number %d is read in %v, %v", add, x, ok)
		}
	}
	for n := range 256 {
		o := sectionsOf(impl.Section{Name: "d", Kind: impl.SectionData, Align: 8, Bytes: []byte{1, byte(n), 2}})
		if x, ok := impl.ReadObject(impl.WriteObject(o)); !ok || !sameObject(x, o) {
			t.Errorf("the byte %d is read in %v, %v", n, x, ok)
		}
	}
}

func TestCutBytesAreRefused(t *testing.T) {
	for _, o := range append(edgeObjects(), greatestObject()) {
		b := impl.WriteObject(o)
		for k := range b {
			// What is cut off is still there behind the end, once, and must not be looked at.
			checkRefused(t, "cut off", b[:k])
			checkRefused(t, "cut off", slices.Clone(b[:k]))
		}
		for k := 1; k <= len(b); k++ {
			checkRefused(t, "cut off in front", b[k:])
		}
	}
}

func TestMoreBytesAreRefused(t *testing.T) {
	for _, o := range append(edgeObjects(), greatestObject()) {
		b := impl.WriteObject(o)
		for n := range 256 {
			checkRefused(t, "a byte more", append(slices.Clone(b), byte(n)))
			checkRefused(t, "a byte more in front", append([]byte{byte(n)}, b...))
		}
		checkRefused(t, "twice", slices.Concat(b, b))
		for _, more := range []int{2, 5, 6, 10, 48, 256, 100000} {
			checkRefused(t, "more bytes", append(slices.Clone(b), make([]byte, more)...))
		}
	}
}

func TestBytesLeftOutOrPutIn(t *testing.T) {
	for _, o := range edgeObjects() {
		b := impl.WriteObject(o)
		for k := range b {
			checkObject(t, slices.Delete(slices.Clone(b), k, k+1))
			for _, n := range []byte{0, 1, b[k], b[k] + 1, 'a'} {
				checkObject(t, slices.Insert(slices.Clone(b), k, n))
			}
		}
	}
}

// TestEveryByteIsChanged changes each byte of some objects to each other value.
func TestEveryByteIsChanged(t *testing.T) {
	for _, o := range edgeObjects() {
		b := impl.WriteObject(o)
		for k, was := range b {
			values := otherValues(was)
			if len(b) < 100 {
				values = bytesFrom(0, 256)
			}
			for _, n := range values {
				b[k] = n
				checkObject(t, b)
			}
			b[k] = was
		}
	}
	b := impl.WriteObject(greatestObject())
	for k, was := range b {
		for _, n := range otherValues(was) {
			b[k] = n
			checkObject(t, b)
		}
		b[k] = was
	}
}

// TestWhatEachByteMayBe tells which values each byte of one object may be changed to.
func TestWhatEachByteMayBe(t *testing.T) {
	const (
		letters = "abcdefghijklmnopqrstuvwxyz"
		all     = letters + "0123456789_."
	)
	every := string(bytesFrom(0, 256))
	may := []string{
		"o", "b", "j", "\x01", "\x01", "\x02", "\x01", "\x10", "\x00", "\x00",
		// The section: its place in the table, its kind, its align, its size and its fixups.
		"\x01", "\x00", "\x01\x02", "\x01\x02\x04\x08", "\x06", "\x01",
		// The symbol main: its place, its binding, where it is, and its value.
		"\x06", "\x00", "\x00\x01\x02", "\x00\x01\x02", "\x00\x01\x02\x03\x04\x05\x06", "\x00",
		// The symbol puts, which is in no section.
		"\x0b", "\x00", "\x01\x02", "\x00\x01\x02", "\x00", "\x00",
		// The fixup: its place, its kind, its symbol, and its number.
		"\x00\x01\x02", "\x01\x02\x03", "\x00\x01", every, "\x00\x01\x02\x03\x04\x05\x06",
		// The table: code is before main, and main before puts.
		"\x00",
		"_.abcdefghijkl", all, all, all, "\x00",
		"defghijklmnop", all, all, all, "\x00",
		"mnopqrstuvwxyz", all, all, all, "\x00",
		// The bytes of the section.
		every, every, every, every, every, every,
	}
	b := impl.WriteObject(oneObject())
	if len(b) != len(may) {
		t.Fatalf("the object has %d bytes, not %d", len(b), len(may))
	}
	for k, was := range b {
		for n := range 256 {
			b[k] = byte(n)
			if _, ok := impl.ReadObject(b); ok != (strings.IndexByte(may[k], byte(n)) >= 0) {
				t.Errorf("with %d at %d the object is read: %v", n, k, ok)
			}
			checkObject(t, b)
		}
		b[k] = was
	}
}

// TestChangedBytesAreReadAsWhatTheyTell says what differs in an object if one byte is another one. Two of its names are the ends of other ones.
func TestChangedBytesAreReadAsWhatTheyTell(t *testing.T) {
	for _, c := range []struct {
		at     int
		b      byte
		change func(o impl.Object)
	}{
		{12, 2, func(o impl.Object) { o.Sections[0].Kind = impl.SectionData }},
		{13, 8, func(o impl.Object) { o.Sections[0].Align = 8 }},
		{19, 1, func(o impl.Object) { o.Sections[1].Align = 1 }},
		{20, 0, func(o impl.Object) { o.Sections[1].Size = 0 }},
		{20, 47, func(o impl.Object) { o.Sections[1].Size = 47 }},
		{24, 1, func(o impl.Object) { o.Sections[2].Kind = impl.SectionCode }},
		{25, 1, func(o impl.Object) { o.Sections[2].Align = 1 }},
		{30, 0, func(o impl.Object) { o.Symbols[0].Bind = local }},
		{30, 2, func(o impl.Object) { o.Symbols[0].Bind = weak }},
		{31, 0, func(o impl.Object) { o.Symbols[0].Where = fixed }},
		{31, 3, func(o impl.Object) { o.Symbols[0].Where = 1 }},
		{31, 4, func(o impl.Object) { o.Symbols[0].Where = 2 }},
		{32, 6, func(o impl.Object) { o.Symbols[0].Value = 6 }},
		{36, 1, func(o impl.Object) { o.Symbols[1].Bind = strong }},
		{37, 0, func(o impl.Object) { o.Symbols[1].Where = fixed }},
		{42, 1, func(o impl.Object) { o.Symbols[2].Bind = strong }},
		{44, 0, func(o impl.Object) { o.Symbols[2].Value = 59904 }},
		{45, 0, func(o impl.Object) { o.Symbols[2].Value = 96 }},
		{46, 1, func(o impl.Object) { o.Sections[0].Fixups[0].At = 1 }},
		{47, 3, func(o impl.Object) { o.Sections[0].Fixups[0].Kind = impl.FixupLong }},
		{48, 2, func(o impl.Object) { o.Sections[0].Fixups[0].To = 2 }},
		{49, 1, func(o impl.Object) { o.Sections[0].Fixups[0].Add = -999 }},
		{50, 7, func(o impl.Object) { o.Sections[0].Fixups[0].Add = 792 }},
		{51, 4, func(o impl.Object) { o.Sections[0].Fixups[1].At = 4 }},
		{57, 2, func(o impl.Object) { o.Sections[2].Fixups[0].Kind = impl.FixupShort }},
		{63, 'z', func(o impl.Object) { o.Sections[1].Name = "bzs" }},
		{66, 'c', func(o impl.Object) { o.Sections[2].Name = "cata" }},
		{67, '0', func(o impl.Object) { o.Sections[2].Name = "d0ta" }},
		{72, '_', func(o impl.Object) { o.Symbols[0].Name = "m_in" }},
		{73, '.', func(o impl.Object) { o.Symbols[0].Name, o.Symbols[2].Name = "ma.n", ".n" }},
		{76, 'u', func(o impl.Object) { o.Sections[0].Name = "uext" }},
		{79, '9', func(o impl.Object) { o.Sections[0].Name, o.Symbols[1].Name = "tex9", "ex9" }},
		{81, 9, func(o impl.Object) { o.Sections[0].Bytes[0] = 9 }},
		{86, 255, func(o impl.Object) { o.Sections[0].Bytes[5] = 255 }},
		{87, 0, func(o impl.Object) { o.Sections[2].Bytes[0] = 0 }},
		{90, 200, func(o impl.Object) { o.Sections[2].Bytes[3] = 200 }},
	} {
		o := wideObject()
		c.change(o)
		b := impl.WriteObject(wideObject())
		b[c.at] = c.b
		x, ok := impl.ReadObject(b)
		if !ok || !sameObject(x, o) {
			t.Errorf("with %d at %d the object is read as %v, %v, not as %v", c.b, c.at, x, ok, o)
		}
	}
}

// TestWrongBytesAreRefused names what is wrong with bytes, of which most differ little from those of an object.
func TestWrongBytesAreRefused(t *testing.T) {
	for _, c := range []struct{ what, text string }{
		{"no bytes", ""},
		{"a header without the table", "obj\x01\x00\x00\x00\x01\x00\x00"},
		{"a table without its length", "obj\x01\x00\x00\x00\x00\x00\x00" + "\x00"},
		{"a table with another byte", "obj\x01\x00\x00\x00\x01\x00\x00" + "\x01"},
		{"a table with two bytes 0", "obj\x01\x00\x00\x00\x02\x00\x00" + "\x00\x00"},
		{"a table with a name of nothing", "obj\x01\x00\x00\x00\x03\x00\x00" + "\x00a\x00"},
		{"a table of 256 bytes that are not there", "obj\x01\x00\x00\x00\x01\x01\x00" + "\x00"},
		{"a table of 400 bytes 0", "obj\x01\x00\x00\x00\x90\x01\x00" + strings.Repeat("\x00", 400)},
		{"sections that are not there", "obj\x01\x08\x00\x00\x01\x00\x00" + "\x00"},
		{"symbols that are not there", "obj\x01\x00\x0c\x00\x01\x00\x00" + "\x00"},
		{"fixups that are not there", "obj\x01\x00\x00\x30\x01\x00\x00" + "\x00"},
		{"a fixup of nothing", "obj\x01\x00\x00\x01\x01\x00\x00" + "\x00\x01\x00\xe8\x03" + "\x00"},
		{"names in another order", "obj\x01\x00\x02\x00\x05\x00\x00" + "\x01\x00\x02\x01\x00\x00" + "\x03\x00\x00\x00\x01\x02" + "\x00b\x00a\x00"},
		{"a name twice in the table", "obj\x01\x00\x02\x00\x07\x00\x00" + "\x05\x00\x02\x01\x00\x00" + "\x01\x00\x00\x00\x01\x02" + "\x00a\x00a\x00b\x00"},
		{"a name of nothing in the table", "obj\x01\x00\x02\x00\x07\x00\x00" + "\x03\x00\x02\x01\x00\x00" + "\x01\x00\x00\x00\x01\x02" + "\x00a\x00b\x00c\x00"},
		{"a table that begins with a name", "obj\x01\x00\x02\x00\x04\x00\x00" + "\x02\x00\x02\x01\x00\x00" + "\x00\x00\x00\x00\x01\x02" + "a\x00b\x00"},
		{"a table that ends with a name", "obj\x01\x00\x02\x00\x04\x00\x00" + "\x03\x00\x02\x01\x00\x00" + "\x01\x00\x00\x00\x01\x02" + "\x00a\x00b"},
		{"a table that is longer than told", "obj\x01\x00\x02\x00\x04\x00\x00" + "\x03\x00\x02\x01\x00\x00" + "\x01\x00\x00\x00\x01\x02" + "\x00a\x00b\x00"},
		{"a name behind the table", "obj\x01\x01\x00\x00\x03\x00\x00" + "\x03\x00\x01\x01\x02\x00" + "\x00a\x00" + "a\x00"},
		{"a name that goes on behind the table", "obj\x01\x01\x00\x00\x02\x00\x00" + "\x01\x00\x01\x01\x01\x00" + "\x00a" + "\x00"},
		{"an end that has a place of its own", "obj\x01\x00\x02\x00\x09\x00\x00" + "\x04\x00\x00\x00\x00\x00" + "\x01\x00\x00\x00\x00\x00" + "\x00in\x00main\x00"},
		{"not the first place of a name", "obj\x01\x00\x03\x00\x0a\x00\x00" + "\x06\x00\x00\x00\x00\x00" + "\x07\x00\x00\x00\x00\x00" + "\x01\x00\x00\x00\x00\x00" + "\x00main\x00xin\x00"},
		{"the place of no name", "obj\x01\x00\x01\x00\x03\x00\x00" + "\x00\x00\x00\x00\x00\x00" + "\x00a\x00"},
		{"the place of no name in an empty table", "obj\x01\x00\x01\x00\x01\x00\x00" + "\x00\x00\x00\x00\x00\x00" + "\x00"},
		{"the place of the byte 0 behind a name", "obj\x01\x00\x01\x00\x03\x00\x00" + "\x02\x00\x00\x00\x00\x00" + "\x00a\x00"},
		{"the place of the end of the table", "obj\x01\x00\x01\x00\x03\x00\x00" + "\x03\x00\x00\x00\x00\x00" + "\x00a\x00"},
		{"a far place", "obj\x01\x00\x01\x00\x03\x00\x00" + "\x01\x01\x00\x00\x00\x00" + "\x00a\x00"},
		{"the farthest place", "obj\x01\x00\x01\x00\x03\x00\x00" + "\xff\xff\x00\x00\x00\x00" + "\x00a\x00"},
		{"the lowest byte of a place last", "obj\x01\x00\x01\x00\x03\x00\x00" + "\x00\x01\x00\x00\x00\x00" + "\x00a\x00"},
		{"a name with a great letter", "obj\x01\x00\x01\x00\x03\x00\x00" + "\x01\x00\x00\x00\x00\x00" + "\x00A\x00"},
		{"a name that begins with a digit", "obj\x01\x00\x01\x00\x04\x00\x00" + "\x01\x00\x00\x00\x00\x00" + "\x001a\x00"},
		{"an end that begins with a digit", "obj\x01\x00\x02\x00\x04\x00\x00" + "\x01\x00\x00\x00\x00\x00" + "\x02\x00\x00\x00\x00\x00" + "\x00a1\x00"},
		{"a name with nine bytes", "obj\x01\x00\x01\x00\x0b\x00\x00" + "\x01\x00\x00\x00\x00\x00" + "\x00abcdefghi\x00"},
		{"an end of a name with nine bytes", "obj\x01\x00\x01\x00\x0b\x00\x00" + "\x02\x00\x00\x00\x00\x00" + "\x00abcdefghi\x00"},
		{"a blank section with bytes", "obj\x01\x01\x00\x00\x05\x00\x00" + "\x01\x00\x03\x08\x05\x00" + "\x00buf\x00" + "\x00\x00\x00\x00\x00"},
		{"a blank section with a fixup", "obj\x01\x01\x01\x01\x05\x00\x00" + "\x01\x00\x03\x08\x05\x01" + "\x01\x00\x00\x00\x00\x00" + "\x00\x01\x00\xe8\x03" + "\x00buf\x00"},
		{"a blank section with 49 bytes", "obj\x01\x01\x00\x00\x05\x00\x00" + "\x01\x00\x03\x08\x31\x00" + "\x00buf\x00"},
		{"a section with 49 bytes", "obj\x01\x01\x00\x00\x05\x00\x00" + "\x01\x00\x01\x08\x31\x00" + "\x00buf\x00" + strings.Repeat("a", 49)},
		{"a section without its bytes", "obj\x01\x01\x00\x00\x05\x00\x00" + "\x01\x00\x01\x08\x05\x00" + "\x00buf\x00"},
		{"a section with less bytes than told", "obj\x01\x01\x00\x00\x05\x00\x00" + "\x01\x00\x01\x08\x05\x00" + "\x00buf\x00" + "abcd"},
		{"a section with more bytes than told", "obj\x01\x01\x00\x00\x05\x00\x00" + "\x01\x00\x01\x08\x05\x00" + "\x00buf\x00" + "abcdef"},
		{"a section with the kind 0", "obj\x01\x01\x00\x00\x05\x00\x00" + "\x01\x00\x00\x08\x00\x00" + "\x00buf\x00"},
		{"a section with the kind 4", "obj\x01\x01\x00\x00\x05\x00\x00" + "\x01\x00\x04\x08\x00\x00" + "\x00buf\x00"},
		{"a section with the align 3", "obj\x01\x01\x00\x00\x05\x00\x00" + "\x01\x00\x03\x03\x00\x00" + "\x00buf\x00"},
		{"a section told a fixup more", "obj\x01\x01\x02\x01\x10\x00\x00" + "\x01\x00\x01\x04\x06\x02" + "\x06\x00\x01\x02\x00\x00" + "\x0b\x00\x01\x01\x00\x00" + "\x01\x03\x01\xec\x03" + "\x00code\x00main\x00puts\x00" + "\x00\x00\x00\x00\x00\x00"},
		{"a section told all fixups that there may be", "obj\x01\x01\x02\x01\x10\x00\x00" + "\x01\x00\x01\x04\x06\xff" + "\x06\x00\x01\x02\x00\x00" + "\x0b\x00\x01\x01\x00\x00" + "\x01\x03\x01\xec\x03" + "\x00code\x00main\x00puts\x00" + "\x00\x00\x00\x00\x00\x00"},
		{"a section told no fixup", "obj\x01\x01\x02\x01\x10\x00\x00" + "\x01\x00\x01\x04\x06\x00" + "\x06\x00\x01\x02\x00\x00" + "\x0b\x00\x01\x01\x00\x00" + "\x01\x03\x01\xec\x03" + "\x00code\x00main\x00puts\x00" + "\x00\x00\x00\x00\x00\x00"},
		{"a header told no fixup", "obj\x01\x01\x02\x00\x10\x00\x00" + "\x01\x00\x01\x04\x06\x01" + "\x06\x00\x01\x02\x00\x00" + "\x0b\x00\x01\x01\x00\x00" + "\x01\x03\x01\xec\x03" + "\x00code\x00main\x00puts\x00" + "\x00\x00\x00\x00\x00\x00"},
		{"symbols of one name", "obj\x01\x00\x02\x00\x03\x00\x00" + "\x01\x00\x01\x00\x00\x00" + "\x01\x00\x02\x00\x00\x00" + "\x00a\x00"},
		{"a symbol with a value of 60001", "obj\x01\x00\x01\x00\x03\x00\x00" + "\x01\x00\x00\x00\x61\xea" + "\x00a\x00"},
		{"a symbol in a section that is not there", "obj\x01\x00\x01\x00\x03\x00\x00" + "\x01\x00\x01\x02\x00\x00" + "\x00a\x00"},
		{"a symbol in the section 253", "obj\x01\x00\x01\x00\x03\x00\x00" + "\x01\x00\x01\xff\x00\x00" + "\x00a\x00"},
		{"a local symbol that is elsewhere", "obj\x01\x00\x01\x00\x03\x00\x00" + "\x01\x00\x00\x01\x00\x00" + "\x00a\x00"},
	} {
		checkRefused(t, c.what, []byte(c.text))
		checkObject(t, []byte(c.text))
	}
	for _, b := range wrongBytes() {
		checkRefused(t, "a wrong header", b)
		// What would be an object is still behind it.
		checkRefused(t, "a wrong header", append(slices.Clone(b), impl.WriteObject(wideObject())[10:]...))
	}
}

// otherObjects are objects that are not valid, many by a single number or name, and that could be written if one did not look.
func otherObjects() []impl.Object {
	list := append(wrongObjects(),
		impl.Object{Sections: manySections(9)},
		symbolsOf(fixedSymbols(13)...),
		sectionsOf(filledSection(49)),
		sectionsOf(filledSection(255)),
		sectionsOf(blankSection(49)),
		sectionsOf(blankSection(255)),
		sectionsOf(filledSection(48, fixupsOf(impl.FixupNear, 0)...)),
		impl.Object{Sections: []impl.Section{filledSection(48, fixupsOf(impl.FixupNear, 0, 1, 2, 3, 4, 5, 6)...)}, Symbols: fixedSymbols(1)},
		symbolsOf(impl.Symbol{Name: "s", Where: fixed, Value: 60001}),
		symbolsOf(impl.Symbol{Name: "s", Where: fixed, Value: 65535}),
		symbolsOf(impl.Symbol{Name: "s", Bind: 3, Where: fixed}),
		symbolsOf(impl.Symbol{Name: "s", Where: none}),
		symbolsOf(impl.Symbol{Name: "s", Bind: weak, Where: none, Value: 1}),
		impl.Object{Sections: []impl.Section{filledSection(4)}, Symbols: []impl.Symbol{{Name: "s", Value: 5}}},
		impl.Object{Sections: []impl.Section{filledSection(4)}, Symbols: []impl.Symbol{{Name: "s", Where: 1}}},
	)
	for _, f := range [][]impl.Fixup{
		{{Kind: 0}},
		{{Kind: 4}},
		{{Kind: 255}},
		{{Kind: impl.FixupNear, To: 12}},
		{{Kind: impl.FixupNear, To: 255}},
		{{Kind: impl.FixupNear, Add: 1001}},
		{{Kind: impl.FixupNear, Add: 64535}},
		{{Kind: impl.FixupNear, At: 48}},
		{{Kind: impl.FixupShort, At: 47}},
		{{Kind: impl.FixupLong, At: 45}},
		{{Kind: impl.FixupLong, At: 255}},
		fixupsOf(impl.FixupNear, 1, 1),
		fixupsOf(impl.FixupNear, 1, 0),
		fixupsOf(impl.FixupShort, 0, 1),
		fixupsOf(impl.FixupLong, 0, 3),
	} {
		list = append(list, impl.Object{Sections: []impl.Section{filledSection(48, f...)}, Symbols: fixedSymbols(12)})
	}
	for _, name := range wrongNames() {
		list = append(list, symbolsOf(impl.Symbol{Name: name, Where: fixed}), sectionsOf(impl.Section{Name: name, Kind: impl.SectionData, Align: 1}))
	}
	return list
}

// TestOtherObjectsAreNotRead says that there are no bytes for objects that are not valid.
func TestOtherObjectsAreNotRead(t *testing.T) {
	for _, o := range otherObjects() {
		if impl.ObjectValid(o) {
			t.Errorf("%v is valid", o)
		}
		checkRefused(t, "not valid", objectBytes(o))
	}
}

func TestFixupsAreReadSectionBySection(t *testing.T) {
	o := impl.Object{Sections: []impl.Section{filledSection(6), blankSection(6), filledSection(6)}, Symbols: fixedSymbols(3)}
	for i := range 6 {
		o.Sections[0].Fixups = append(o.Sections[0].Fixups, impl.Fixup{At: i, Kind: impl.FixupNear, To: i % 3, Add: i})
	}
	b := impl.WriteObject(o)
	// The numbers of the fixups tell alone which section they are in.
	for many := range 7 {
		b[15], b[27] = byte(many), byte(6-many)
		want := cloneObject(o)
		want.Sections[0].Fixups, want.Sections[2].Fixups = o.Sections[0].Fixups[:many], o.Sections[0].Fixups[many:]
		if x, ok := impl.ReadObject(b); !ok || !sameObject(x, want) {
			t.Errorf("with %d of 6 fixups in the first section %v, %v is read", many, x, ok)
		}
		for _, other := range []byte{1, 255} {
			b[21] = other
			checkRefused(t, "fixups without bytes", b)
			b[21], b[27] = 0, b[27]+other
			checkRefused(t, "more or less fixups", b)
			b[27] = byte(6 - many)
		}
	}
}

func TestBytesAreReadSectionBySection(t *testing.T) {
	o := sectionsOf(filledSection(48), blankSection(6), filledSection(0))
	o.Sections[0].Bytes = bytesFrom(100, 48)
	b := impl.WriteObject(o)
	// The sizes tell alone which section the bytes are in.
	for size := range 49 {
		b[14], b[26] = byte(size), byte(48-size)
		want := cloneObject(o)
		want.Sections[0].Bytes, want.Sections[2].Bytes = bytesFrom(100, size), bytesFrom(100+size, 48-size)
		if x, ok := impl.ReadObject(b); !ok || !sameObject(x, want) {
			t.Errorf("with %d of 48 bytes in the first section %v, %v is read", size, x, ok)
		}
		for _, other := range []byte{1, 47, 255} {
			b[26] += other
			checkRefused(t, "more or less bytes", b)
			b[26] -= other
		}
	}
}

// TestPairsOfBytesAreChanged changes two bytes of small objects at a time.
func TestPairsOfBytesAreChanged(t *testing.T) {
	for _, c := range toldObjects() {
		b := []byte(c.text)
		for i := range b {
			for k := range i {
				changed := slices.Clone(b)
				changed[i], changed[k] = b[k], b[i]
				checkObject(t, changed)
				for _, n := range [][2]byte{{0, 0}, {1, 255}, {255, 1}, {b[i] + 1, b[k] + 1}, {b[i] + 1, b[k] - 1}, {b[i] - 1, b[k] + 1}} {
					changed[i], changed[k] = n[0], n[1]
					checkObject(t, changed)
				}
			}
		}
	}
}

// fillUp puts another element into each place of a list, up to its capacity.
func fillUp[T any](list []T, other T) {
	list = list[:cap(list)]
	for i := range list {
		list[i] = other
	}
}

// checkApart says that no list of an object shares memory with another one of it.
func checkApart(t *testing.T, o impl.Object) {
	t.Helper()
	was := cloneObject(o)
	for i := range o.Sections {
		fillUp(o.Sections[i].Bytes, 77)
		fillUp(was.Sections[i].Bytes, 77)
		if !sameObject(o, was) {
			t.Fatalf("the bytes of section %d of %v are elsewhere, too", i, was)
		}
		fillUp(o.Sections[i].Fixups, impl.Fixup{At: 77})
		fillUp(was.Sections[i].Fixups, impl.Fixup{At: 77})
		if !sameObject(o, was) {
			t.Fatalf("the fixups of section %d of %v are elsewhere, too", i, was)
		}
	}
}

func TestReadObjectsHaveTheirOwnMemory(t *testing.T) {
	for _, o := range append(writtenObjects(), edgeObjects()...) {
		b := impl.WriteObject(o)
		// There is room behind the bytes, which is not the object's, either.
		b = append(b, make([]byte, 100)...)[:len(b)]
		was := slices.Clone(b[:cap(b)])
		first, _ := impl.ReadObject(b)
		second, ok := impl.ReadObject(b)
		if !ok || !bytes.Equal(b[:cap(b)], was) {
			t.Errorf("reading %v, %v changes the bytes", second, ok)
		}
		fillUp(b, 77)
		if !sameObject(first, o) || !sameObject(second, o) {
			t.Errorf("%v changes with its bytes to %v", o, first)
		}
		checkApart(t, first)
		fillUp(first.Sections, impl.Section{Name: "other"})
		fillUp(first.Symbols, impl.Symbol{Name: "other"})
		if !sameObject(second, o) {
			t.Errorf("two results for %v share memory", o)
		}
		for _, n := range b[:cap(b)] {
			if n != 77 {
				t.Fatalf("a change of %v changes the bytes", o)
			}
		}
	}
}

func TestManyBytesAreRefused(t *testing.T) {
	for _, n := range []byte{0, 1, 'a', 255} {
		for _, many := range []int{1, 9, 10, 11, 16, 935, 936, 100000} {
			list := bytes.Repeat([]byte{n}, many)
			checkRefused(t, "one byte many times", list)
			checkRefused(t, "one byte many times behind a header", append([]byte("obj\x01\x08\x0c\x30\x90\x01\x00"), list...))
			checkRefused(t, "one byte many times behind a short header", append([]byte("obj\x01\x01\x01\x01\x03\x00\x00"), list...))
		}
	}
}
