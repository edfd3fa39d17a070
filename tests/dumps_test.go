package tests

import (
	"bytes"
	"encoding/hex"
	"fmt"
	"math"
	"reflect"
	"regexp"
	"slices"
	"strconv"
	"strings"
	"testing"

	"loop.example/objectlinker/impl"
)

// linesOf writes an object line by line, as the document tells it.
func linesOf(o impl.Object) []string {
	var lines []string
	for _, s := range o.Sections {
		size := len(s.Bytes)
		if s.Kind == impl.SectionBlank {
			size = s.Size
		}
		line := fmt.Sprintf("section %s %d %d %d", s.Name, s.Kind, s.Align, size)
		if len(s.Bytes) > 0 {
			line += fmt.Sprintf(" %x", s.Bytes)
		}
		lines = append(lines, line)
		for _, f := range s.Fixups {
			lines = append(lines, fmt.Sprintf("fixup %d %d %d %d", f.At, f.Kind, f.To, f.Add))
		}
	}
	for _, s := range o.Symbols {
		lines = append(lines, fmt.Sprintf("symbol %s %d %d %d", s.Name, s.Bind, s.Where, s.Value))
	}
	return lines
}

// What lines look like.
var (
	sectionLine = regexp.MustCompile(`^section ([a-z0-9_.]+) ([0-9]+) ([0-9]+) ([0-9]+)(?: ([0-9a-f]+))?$`)
	fixupLine   = regexp.MustCompile(`^fixup ([0-9]+) ([0-9]+) ([0-9]+) (-?[0-9]+)$`)
	symbolLine  = regexp.MustCompile(`^symbol ([a-z0-9_.]+) ([0-9]+) (-?[0-9]+) ([0-9]+)$`)
)

// numberOf returns the number that a text is, and one that is nowhere valid if it is none.
func numberOf(s string) int {
	n, err := strconv.Atoi(s)
	if err != nil {
		return math.MinInt
	}
	return n
}

// objectTold reads an object from lines, by what they look like.
func objectTold(lines []string) (impl.Object, bool) {
	var o impl.Object
	for _, line := range lines {
		section, fixup, symbol := sectionLine.FindStringSubmatch(line), fixupLine.FindStringSubmatch(line), symbolLine.FindStringSubmatch(line)
		switch {
		case section != nil:
			s := impl.Section{Name: section[1], Kind: numberOf(section[2]), Align: numberOf(section[3])}
			if s.Kind == impl.SectionBlank {
				s.Size = numberOf(section[4])
			}
			s.Bytes, _ = hex.DecodeString(section[5])
			o.Sections = append(o.Sections, s)
		case fixup != nil && len(o.Sections) > 0:
			last := &o.Sections[len(o.Sections)-1]
			last.Fixups = append(last.Fixups, impl.Fixup{At: numberOf(fixup[1]), Kind: numberOf(fixup[2]), To: numberOf(fixup[3]), Add: numberOf(fixup[4])})
		case symbol != nil:
			o.Symbols = append(o.Symbols, impl.Symbol{Name: symbol[1], Bind: numberOf(symbol[2]), Where: numberOf(symbol[3]), Value: numberOf(symbol[4])})
		default:
			return impl.Object{}, false
		}
	}
	if !impl.ObjectValid(o) || !slices.Equal(linesOf(o), lines) {
		return impl.Object{}, false
	}
	return o, true
}

// checkLines holds what is read from lines against what should be, and reports whether there is an object.
func checkLines(t *testing.T, lines []string) bool {
	t.Helper()
	return checkReading(t, lines, impl.ReadDump, objectTold, impl.DumpObject)
}

// checkLinesRefused says that lines are not read.
func checkLinesRefused(t *testing.T, what string, lines ...string) {
	t.Helper()
	checkNotRead(t, what, lines, impl.ReadDump)
}

// checkDumped holds the lines of a valid object against what they should be, and says that they are read as this object.
func checkDumped(t *testing.T, o impl.Object) {
	t.Helper()
	lines := impl.DumpObject(o)
	if want := linesOf(o); !slices.Equal(lines, want) {
		t.Errorf("%v has the lines %q, not %q", o, lines, want)
	}
	if x, ok := impl.ReadDump(lines); !ok || !sameObject(x, o) {
		t.Errorf("%v has the lines %q, which are read as %v, %v", o, lines, x, ok)
	}
}

// checkHex holds what is read from a text against what should be.
func checkHex(t *testing.T, s string) {
	t.Helper()
	want, err := hex.DecodeString(s)
	wanted := err == nil && s == strings.ToLower(s)
	b, ok := impl.ReadHex(s)
	if ok != wanted || ok && !bytes.Equal(b, want) || !ok && b != nil {
		t.Errorf("%q is read as %v, %v", s, b, ok)
	}
	if ok && impl.HexText(b) != s {
		t.Errorf("%q is read as %v, which have the text %q", s, b, impl.HexText(b))
	}
}

// hexBytes are bytes of many lengths and values.
func hexBytes() [][]byte {
	list := [][]byte{nil, {}, []byte("\x00\xff\x1a"), bytesFrom(0, 256), bytesFrom(100, 1000), make([]byte, 48), bytes.Repeat([]byte{255}, 49)}
	for n := range 256 {
		list = append(list, []byte{byte(n)}, []byte{byte(n), byte(255 - n)}, bytesFrom(n, n%50))
	}
	return list
}

// dumpedObjects are valid objects, the ones at the ends among them.
func dumpedObjects() []impl.Object {
	return append(writtenObjects(), edgeObjects()...)
}

// allKindsObject is an object with sections of all kinds, with and without bytes and fixups, and with symbols of all places.
func allKindsObject() impl.Object {
	o := wideObject()
	o.Sections = slices.Insert(o.Sections, 2, impl.Section{Name: "none", Kind: impl.SectionData, Align: 1})
	return o
}

// allKindsLines are the lines of this object.
func allKindsLines() []string {
	return []string{
		"section text 1 4 6 000007080900",
		"fixup 0 2 1 -1000",
		"fixup 5 1 2 1000",
		"section bss 3 8 48",
		"section none 2 1 0",
		"section data 2 2 4 ff800100",
		"fixup 0 3 0 5",
		"symbol main 1 0 2",
		"symbol ext 2 -1 0",
		"symbol in 0 -2 60000",
	}
}

// Promise 4: dumped objects can be read.
func TestPromise4(t *testing.T) {
	for _, o := range dumpedObjects() {
		lines := impl.DumpObject(o)
		if x, ok := impl.ReadDump(lines); !ok || !sameObject(x, o) || !impl.ObjectValid(x) {
			t.Errorf("%v has the lines %q, which are read as %v, %v", o, lines, x, ok)
		}
	}
}

// Promise 45: hexadecimal digits can be read.
func TestPromise45(t *testing.T) {
	for _, b := range hexBytes() {
		s := impl.HexText(b)
		if len(s) != 2*len(b) {
			t.Errorf("%v have the text %q", b, s)
		}
		if x, ok := impl.ReadHex(s); !ok || !bytes.Equal(x, b) {
			t.Errorf("%v have the text %q, which is read as %v, %v", b, s, x, ok)
		}
	}
}

// Promise 46: accepted texts are canonical.
func TestPromise46(t *testing.T) {
	for _, want := range hexBytes() {
		s := fmt.Sprintf("%x", want)
		b, ok := impl.ReadHex(s)
		if !ok || impl.HexText(b) != s {
			t.Errorf("%q is read as %v, %v, and these have the text %q", s, b, ok, impl.HexText(b))
		}
		for n := range 256 {
			for _, more := range []string{s + string([]byte{byte(n)}), string([]byte{byte(n)}) + s} {
				if b, ok := impl.ReadHex(more); ok || b != nil {
					t.Errorf("%q is read as %v, %v", more, b, ok)
				}
			}
		}
	}
}

// Promise 47: accepted lines are canonical.
func TestPromise47(t *testing.T) {
	read, refused := 0, 0
	for n := range 2000 {
		lines := linesOf(mixedObject(n))
		for i := range 20 {
			if len(lines) == 0 {
				continue
			}
			changed := slices.Clone(lines)
			words := strings.Split(changed[(n+i)%len(lines)], " ")
			words[(n+3*i)%len(words)] = []string{"-2", "-1", "0", "1", "2", "3", "8", "48", "007", "a", "00", "+1", "fixup", "symbol"}[(n+5*i)%14]
			changed[(n+i)%len(lines)] = strings.Join(words, " ")
			if checkWrittenBack(t, changed, impl.ReadDump, impl.DumpObject) {
				read++
			} else {
				refused++
			}
		}
	}
	if read < 3000 || refused < 10000 {
		t.Errorf("%d objects were read and %d refused", read, refused)
	}
}

func TestTextsOfBytes(t *testing.T) {
	for _, c := range []struct {
		b    []byte
		text string
	}{
		{nil, ""},
		{[]byte{}, ""},
		{[]byte{0}, "00"},
		{[]byte{9}, "09"},
		{[]byte{10}, "0a"},
		{[]byte{15}, "0f"},
		{[]byte{16}, "10"},
		{[]byte{159}, "9f"},
		{[]byte{160}, "a0"},
		{[]byte{255}, "ff"},
		{[]byte{0, 255, 26}, "00ff1a"},
		{[]byte{0x12, 0x34, 0x56, 0x78, 0x9a, 0xbc, 0xde, 0xf0}, "123456789abcdef0"},
		{[]byte("linker\n"), "6c696e6b65720a"},
		{make([]byte, 48), strings.Repeat("0", 96)},
	} {
		if x := impl.HexText(c.b); x != c.text {
			t.Errorf("%v have the text %q", c.b, x)
		}
		if b, ok := impl.ReadHex(c.text); !ok || !bytes.Equal(b, c.b) {
			t.Errorf("%q is read as %v, %v", c.text, b, ok)
		}
	}
}

// TestAllValuesOfBytesHaveDigits tells the digits of each byte from those of its halves.
func TestAllValuesOfBytesHaveDigits(t *testing.T) {
	digits := strings.Split("0 1 2 3 4 5 6 7 8 9 a b c d e f", " ")
	all := ""
	for high := range 16 {
		for low := range 16 {
			n, want := byte(16*high+low), digits[high]+digits[low]
			if x := impl.HexText([]byte{n}); x != want {
				t.Errorf("%d has the text %q", n, x)
			}
			if b, ok := impl.ReadHex(want); !ok || !bytes.Equal(b, []byte{n}) {
				t.Errorf("%q is read as %v, %v", want, b, ok)
			}
			all += want
		}
	}
	if x := impl.HexText(bytesFrom(0, 256)); x != all {
		t.Errorf("all bytes have the text %q", x)
	}
	if b, ok := impl.ReadHex(all); !ok || !bytes.Equal(b, bytesFrom(0, 256)) {
		t.Errorf("the text of all bytes is read as %v, %v", b, ok)
	}
}

// TestShortTextsAreRead looks at all texts of up to two bytes, and at these before and behind digits.
func TestShortTextsAreRead(t *testing.T) {
	checkHex(t, "")
	for high := range 256 {
		checkHex(t, string([]byte{byte(high)}))
		for low := range 256 {
			s := string([]byte{byte(high), byte(low)})
			checkHex(t, s)
			checkHex(t, "0f"+s)
			checkHex(t, s+"a9")
		}
	}
}

func TestEveryDigitIsLookedAt(t *testing.T) {
	for _, b := range [][]byte{bytesFrom(0x10, 1), bytesFrom(0xa9, 2), bytesFrom(0x9a, 3), bytesFrom(0xc0, 48)} {
		s := impl.HexText(b)
		for k := range s {
			for n := range 256 {
				checkHex(t, s[:k]+string([]byte{byte(n)})+s[k+1:])
			}
			checkHex(t, s[:k])
			checkHex(t, s[k:])
			checkHex(t, s[:k]+s[k+1:])
			for _, more := range []string{"0", "f", " ", "00", "AF", "0x", "\x00\x00", "é"} {
				checkHex(t, s[:k]+more+s[k:])
			}
		}
	}
}

func TestOtherTextsAreNoBytes(t *testing.T) {
	for _, s := range []string{
		"0", "f", "000", "abc", "00ff1", "0g", "g0", "AB", "aB", "Ab", "FF", "00FF1A", "ab ", " ab", "a b", "ab cd", "  ", " 0", "0 ", "ab\n", "ab\x00", "\n\n", "\x00\x00",
		"0x", "0x00", "x0", "+1", "-1", "1-", "1+", "_1", "1_", "a_b0", "/0", ":0", "`0", "@0", "0/", "0:", "0`", "0@", "é", "aé", "ａ0", "\xff\xff", "zz", "..", strings.Repeat("0", 97), strings.Repeat("0", 95) + "G",
	} {
		if b, ok := impl.ReadHex(s); ok || b != nil {
			t.Errorf("%q is read as %v, %v", s, b, ok)
		}
	}
}

func TestBytesAndTheirTextsShareNoMemory(t *testing.T) {
	for _, b := range hexBytes() {
		// There is room behind the bytes, which is not theirs.
		b = append(b, make([]byte, 20)...)[:len(b)]
		was := slices.Clone(b[:cap(b)])
		s := impl.HexText(b)
		first, _ := impl.ReadHex(s)
		second, ok := impl.ReadHex(s)
		if !ok || !bytes.Equal(b[:cap(b)], was) {
			t.Errorf("%v were changed to %v", was, b[:cap(b)])
		}
		fillUp(b, 77)
		fillUp(first, 78)
		if text := fmt.Sprintf("%x", was[:len(b)]); s != text || !bytes.Equal(second, was[:len(b)]) {
			t.Errorf("%q and %v change with their bytes, or with each other", s, second)
		}
	}
}

// objectWithLines is an object, and its lines.
type objectWithLines struct {
	what  string
	o     impl.Object
	lines []string
}

// objectsWithLines are valid objects whose lines are told.
func objectsWithLines() []objectWithLines {
	all := filledSection(48, fixupsOf(impl.FixupLong, 0, 4, 8, 12, 16, 44)...)
	all.Bytes = bytesFrom(0, 48)
	all.Fixups[5].Add = -7
	return []objectWithLines{
		{"nothing", impl.Object{}, nil},
		{"empty lists", impl.Object{Sections: []impl.Section{}, Symbols: []impl.Symbol{}}, []string{}},
		{"one object", oneObject(), []string{"section code 1 4 6 000000000000", "fixup 1 3 1 4", "symbol main 1 0 0", "symbol puts 1 -1 0"}},
		{"a library", impl.Object{
			Sections: []impl.Section{{Name: "lib", Kind: 1, Align: 2, Bytes: []byte{0xaa, 0xbb, 0xcc}}, blankSection(5)},
			Symbols:  []impl.Symbol{{Name: "puts", Bind: strong, Where: 0, Value: 1}, {Name: "buf", Where: 1, Value: 2}},
		}, []string{"section lib 1 2 3 aabbcc", "section buf 3 8 5", "symbol puts 1 0 1", "symbol buf 0 1 2"}},
		{"a section without bytes", sectionsOf(blankSection(0)), []string{"section buf 3 8 0"}},
		{"a section without 48 bytes", sectionsOf(blankSection(48)), []string{"section buf 3 8 48"}},
		{"a section with no bytes", sectionsOf(filledSection(0)), []string{"section code 1 1 0"}},
		{"a section with one byte", sectionsOf(filledSection(1)), []string{"section code 1 1 1 00"}},
		{"a section with MaxBytes and MaxFixups", impl.Object{Sections: []impl.Section{all}, Symbols: fixedSymbols(1)}, []string{
			"section code 1 1 48 000102030405060708090a0b0c0d0e0f101112131415161718191a1b1c1d1e1f202122232425262728292a2b2c2d2e2f",
			"fixup 0 3 0 0", "fixup 4 3 0 0", "fixup 8 3 0 0", "fixup 12 3 0 0", "fixup 16 3 0 0", "fixup 44 3 0 -7",
			"symbol f0 1 -2 0",
		}},
		{"symbols alone", symbolsOf(impl.Symbol{Name: "b", Bind: weak, Where: none}, impl.Symbol{Name: "a", Where: fixed, Value: 513}), []string{"symbol b 2 -1 0", "symbol a 0 -2 513"}},
		{"sections alone", sectionsOf(filledSection(2), filledSection(0), blankSection(3)), []string{"section code 1 1 2 0000", "section code 1 1 0", "section buf 3 8 3"}},
		{"names like words", impl.Object{Sections: []impl.Section{{Name: "symbol", Kind: 1, Align: 1, Bytes: []byte{1}, Fixups: fixupsOf(1, 0)}, {Name: "fixup", Kind: 2, Align: 1}}, Symbols: []impl.Symbol{{Name: "section", Where: fixed}, {Name: "fixup", Where: 1}}}, []string{"section symbol 1 1 1 01", "fixup 0 1 0 0", "section fixup 2 1 0", "symbol section 0 -2 0", "symbol fixup 0 1 0"}},
		{"all that there may be", allKindsObject(), allKindsLines()},
	}
}

func TestLinesOfObjects(t *testing.T) {
	for _, c := range objectsWithLines() {
		if x := impl.DumpObject(c.o); !slices.Equal(x, c.lines) {
			t.Errorf("%s has the lines %q", c.what, x)
		}
		if o, ok := impl.ReadDump(c.lines); !ok || !sameObject(o, c.o) {
			t.Errorf("%s is read as %v, %v", c.what, o, ok)
		}
		if !checkLines(t, c.lines) {
			t.Errorf("%s is refused", c.what)
		}
	}
}

func TestObjectsAreDumped(t *testing.T) {
	for _, o := range dumpedObjects() {
		checkDumped(t, o)
	}
}

func TestEdgesAreDumped(t *testing.T) {
	for size := range 49 {
		for fixups := range min(size, 6) + 1 {
			s := filledSection(size)
			s.Bytes = bytesFrom(5*size, size)
			for k := range fixups {
				s.Fixups = append(s.Fixups, impl.Fixup{At: size - fixups + k, Kind: impl.FixupNear, To: k % 3, Add: 1000 - 400*k})
			}
			checkDumped(t, impl.Object{Sections: []impl.Section{s}, Symbols: fixedSymbols(3)})
			checkDumped(t, impl.Object{Sections: []impl.Section{blankSection(size), s, s, blankSection(5), s}, Symbols: fixedSymbols(3)})
		}
	}
	for sections := range 9 {
		for symbols := range 13 {
			o := impl.Object{Sections: manySections(sections), Symbols: fixedSymbols(symbols)}
			checkDumped(t, o)
			if x := impl.DumpObject(o); len(x) != sections+symbols {
				t.Errorf("with %d sections and %d symbols there are the lines %q", sections, symbols, x)
			}
			for i := range o.Symbols {
				if sections > 0 {
					o.Symbols[i].Where, o.Symbols[i].Value = i%sections, 0
				}
			}
			checkDumped(t, o)
		}
	}
	if x := impl.DumpObject(greatestObject()); len(x) != 8+48+12 {
		t.Errorf("the greatest object has %d lines", len(x))
	}
}

func TestNumbersAreDumped(t *testing.T) {
	for value := range 60001 {
		o, line := symbolsOf(impl.Symbol{Name: "s", Where: fixed, Value: value}), "symbol s 0 -2 "+strconv.Itoa(value)
		if x := impl.DumpObject(o); !slices.Equal(x, []string{line}) {
			t.Errorf("the value %d is in the lines %q", value, x)
		}
		if x, ok := impl.ReadDump([]string{line}); !ok || !sameObject(x, o) {
			t.Errorf("%q is read as %v, %v", line, x, ok)
		}
	}
	for add := -1000; add <= 1000; add++ {
		o := impl.Object{Sections: []impl.Section{filledSection(48, impl.Fixup{At: 47, Kind: impl.FixupNear, To: 11, Add: add})}, Symbols: fixedSymbols(12)}
		checkDumped(t, o)
		if x := impl.DumpObject(o); len(x) != 14 || x[1] != "fixup 47 1 11 "+strconv.Itoa(add) {
			t.Errorf("the number %d is in the lines %q", add, x)
		}
	}
	for n := range 256 {
		checkDumped(t, sectionsOf(impl.Section{Name: "d", Kind: impl.SectionData, Align: 8, Bytes: []byte{1, byte(n), 2}}))
	}
}

// TestOtherObjectsAreNotDumped says that objects that are not valid have no lines, and that what would be their lines is refused.
func TestOtherObjectsAreNotDumped(t *testing.T) {
	list := append(otherObjects(), sectionsOf(filledSection(100000)), symbolsOf(fixedSymbols(1000)...))
	for _, n := range farInts {
		for _, s := range []impl.Symbol{{Name: "s", Bind: n, Where: fixed}, {Name: "s", Where: n}, {Name: "s", Bind: weak, Where: none, Value: n}} {
			list = append(list, symbolsOf(s))
		}
		// Some of these ints are fixed values.
		if n < 0 || n > 60000 {
			list = append(list, symbolsOf(impl.Symbol{Name: "s", Where: fixed, Value: n}))
		}
		for _, f := range []impl.Fixup{{At: n, Kind: 1}, {Kind: n}, {Kind: 1, To: n}, {Kind: 1, Add: n}} {
			list = append(list, impl.Object{Sections: []impl.Section{filledSection(48, f)}, Symbols: fixedSymbols(12)})
		}
		list = append(list, sectionsOf(blankSection(n)), sectionsOf(impl.Section{Name: "s", Kind: n, Align: 1}), sectionsOf(impl.Section{Name: "s", Kind: 1, Align: n}))
	}
	for _, o := range list {
		if impl.ObjectValid(o) {
			t.Errorf("%v is valid", o)
		}
		if x := impl.DumpObject(o); x != nil {
			t.Errorf("%v is not valid and has the lines %q", o, x)
		}
		checkLinesRefused(t, "not valid", linesOf(o)...)
	}
	// What these lack cannot be told in lines.
	for _, s := range []impl.Section{{Name: "s", Kind: 1, Align: 1, Size: 1}, {Name: "s", Kind: 3, Align: 1, Size: 1, Bytes: []byte{1}}} {
		if x := impl.DumpObject(sectionsOf(s)); x != nil {
			t.Errorf("%v is not valid and has the lines %q", s, x)
		}
	}
}

// TestWrongLinesAreRefused names what is wrong with lines.
func TestWrongLinesAreRefused(t *testing.T) {
	section, fixup, symbol := "section a 1 1 1 00", "fixup 0 1 0 0", "symbol a 1 -2 0"
	if !checkLines(t, []string{section, fixup, symbol}) {
		t.Fatalf("%q, %q and %q are refused", section, fixup, symbol)
	}
	for _, c := range []struct {
		what  string
		lines []string
	}{
		{"a line of nothing", []string{""}},
		{"a line of a space", []string{" "}},
		{"a line of spaces", []string{"     "}},
		{"an empty line in front", []string{"", symbol}},
		{"an empty line at the end", []string{symbol, ""}},
		{"an empty line between", []string{section, "", symbol}},
		{"two lines in one", []string{"section a 1 1 0\nsymbol a 1 -2 0"}},
		{"two lines in one, with a space", []string{"section a 1 1 0 symbol a 1 -2 0"}},
		{"a line break at the end", []string{symbol + "\n"}},
		{"a line break in front", []string{"\n" + symbol}},
		{"no section for the fixup", []string{fixup, symbol}},
		{"a fixup ahead of its section", []string{fixup, section, symbol}},
		{"a fixup alone", []string{fixup}},
		{"a fixup without a symbol", []string{section, fixup}},
		{"a fixup of a section without bytes", []string{"section a 3 1 1", fixup, symbol}},
		{"a fixup behind the bytes", []string{section, "fixup 1 1 0 0", symbol}},
		{"a fixup that reaches behind the bytes", []string{section, "fixup 0 2 0 0", symbol}},
		{"a fixup of a symbol that is not there", []string{section, "fixup 0 1 1 0", symbol}},
		{"a fixup twice", []string{section, fixup, fixup, symbol}},
		{"fixups swapped", []string{"section a 1 1 2 0000", "fixup 1 1 0 0", "fixup 0 1 0 0", symbol}},
		{"a fixup behind a symbol", []string{section, symbol, fixup}},
		{"a fixup between symbols", []string{section, symbol, fixup, "symbol b 1 -2 0"}},
		{"a section behind a symbol", []string{symbol, section}},
		{"a section between symbols", []string{symbol, section, "symbol b 1 -2 0"}},
		{"a section and its fixup behind a symbol", []string{symbol, section, fixup}},
		{"a symbol twice", []string{symbol, symbol}},
		{"a symbol between a section and its fixup", []string{section, symbol, fixup, symbol}},
		{"no words behind the first one of a section", []string{"section"}},
		{"a name alone", []string{"section a"}},
		{"no align", []string{"section a 1"}},
		{"no size", []string{"section a 1 1"}},
		{"no bytes", []string{"section a 1 1 1"}},
		{"bytes where there are none", []string{"section a 1 1 0 00"}},
		{"bytes without a size", []string{"section a 1 1 00"}},
		{"bytes twice", []string{"section a 1 1 1 00 00"}},
		{"bytes in two words", []string{"section a 1 1 2 00 00"}},
		{"no bytes and bytes", []string{"section a 1 1 1  00"}},
		{"bytes and no bytes", []string{"section a 1 1 1 00 "}},
		{"no bytes behind a space", []string{"section a 1 1 0 "}},
		{"many words", []string{"section a 1 1 1 00" + strings.Repeat(" 00", 100)}},
		{"many spaces", []string{"section a 1 1 0" + strings.Repeat(" ", 100)}},
		{"a size that is too small", []string{"section a 1 1 1 0000"}},
		{"a size that is too great", []string{"section a 1 1 3 0000"}},
		{"a size of 0 for bytes", []string{"section a 1 1 0 0000"}},
		{"a size below 0", []string{"section a 1 1 -1 00"}},
		{"49 bytes", []string{"section a 1 1 49 " + strings.Repeat("00", 49)}},
		{"a size of 49 without bytes", []string{"section a 3 1 49"}},
		{"a size below 0 without bytes", []string{"section a 3 1 -1"}},
		{"bytes of a section without bytes", []string{"section a 3 1 1 00"}},
		{"a size that is not that of the bytes of a section without bytes", []string{"section a 3 1 5 00"}},
		{"a space behind a section without bytes", []string{"section a 3 1 5 "}},
		{"one digit", []string{"section a 1 1 1 0"}},
		{"three digits", []string{"section a 1 1 1 000"}},
		{"three digits for two bytes", []string{"section a 1 1 2 000"}},
		{"a great digit", []string{"section a 1 1 1 0A"}},
		{"no digit", []string{"section a 1 1 1 0g"}},
		{"a sign", []string{"section a 1 1 1 +0"}},
		{"a digit and a space", []string{"section a 1 1 1 0 "}},
		{"a kind of 0", []string{"section a 0 1 0"}},
		{"a kind of 4", []string{"section a 4 1 0"}},
		{"a kind in letters", []string{"section a code 1 0"}},
		{"an align of 3", []string{"section a 1 3 0"}},
		{"an align of 0", []string{"section a 1 0 0"}},
		{"no name of a section", []string{"section  1 1 0"}},
		{"no name of a section and one space", []string{"section 1 1 0"}},
		{"a great letter", []string{"section A 1 1 0"}},
		{"a name of nine bytes", []string{"section abcdefghi 1 1 0"}},
		{"a symbol alone", []string{"symbol"}},
		{"a symbol and its name", []string{"symbol a"}},
		{"a symbol without two numbers", []string{"symbol a 1"}},
		{"a symbol without a value", []string{"symbol a 1 -2"}},
		{"a symbol with a number more", []string{"symbol a 1 -2 0 0"}},
		{"a symbol with many numbers more", []string{"symbol a 1 -2" + strings.Repeat(" 0", 100)}},
		{"a symbol without a name", []string{"symbol  1 -2 0"}},
		{"a symbol without a name and one space", []string{"symbol 1 -2 0"}},
		{"a symbol with bytes", []string{"symbol a 1 -2 0 00"}},
		{"a value with a zero", []string{"symbol a 1 -2 00"}},
		{"a value above the greatest", []string{"symbol a 1 -2 60001"}},
		{"a value below 0", []string{"symbol a 1 -2 -1"}},
		{"a value of minus 0", []string{"symbol a 1 -2 -0"}},
		{"a value with a sign", []string{"symbol a 1 -2 +1"}},
		{"a place of minus 3", []string{"symbol a 1 -3 0"}},
		{"a place in no section", []string{"symbol a 1 0 0"}},
		{"a place with two signs", []string{"symbol a 1 --2 0"}},
		{"a place with a zero", []string{"symbol a 1 -02 0"}},
		{"a place with a sign behind", []string{"symbol a 1 2- 0"}},
		{"a place with a space in it", []string{"symbol a 1 - 2 0"}},
		{"a binding of 3", []string{"symbol a 3 -2 0"}},
		{"a local symbol that is elsewhere", []string{"symbol a 0 -1 0"}},
		{"a symbol that is elsewhere with a value", []string{"symbol a 1 -1 1"}},
		{"a fixup alone in its line", []string{section, "fixup", symbol}},
		{"a fixup without a number", []string{section, "fixup 0 1 0", symbol}},
		{"a fixup with a number more", []string{section, "fixup 0 1 0 0 0", symbol}},
		{"a fixup with two numbers more", []string{section, "fixup 0 1 0 0 0 0", symbol}},
		{"a fixup with many numbers more", []string{section, "fixup 0 1 0" + strings.Repeat(" 0", 100), symbol}},
		{"a fixup with a name", []string{section, "fixup a 0 1 0 0", symbol}},
		{"a fixup of the kind 4", []string{section, "fixup 0 4 0 0", symbol}},
		{"a fixup that adds 1001", []string{section, "fixup 0 1 0 1001", symbol}},
		{"a fixup that adds -1001", []string{section, "fixup 0 1 0 -1001", symbol}},
		{"a fixup that adds -0", []string{section, "fixup 0 1 0 -0", symbol}},
		{"a fixup that adds +5", []string{section, "fixup 0 1 0 +5", symbol}},
		{"a fixup that adds 05", []string{section, "fixup 0 1 0 05", symbol}},
		{"a fixup that adds -05", []string{section, "fixup 0 1 0 -05", symbol}},
		{"a number with letters", []string{"symbol a 1 -2 1x"}},
		{"a number in hexadecimal digits", []string{"symbol a 1 -2 0x1"}},
		{"a number with an underscore", []string{"symbol a 1 -2 1_0"}},
		{"a number with a point", []string{"symbol a 1 -2 1.0"}},
		{"a number with an exponent", []string{"symbol a 1 -2 1e3"}},
		{"a number in other digits", []string{"symbol a 1 -2 １"}},
		{"a number of 2^63", []string{"symbol a 1 -2 9223372036854775808"}},
		{"a number of 2^64", []string{"symbol a 1 -2 18446744073709551616"}},
		{"a number of 2^64-2", []string{"symbol a 1 18446744073709551614 0"}},
		{"a number of 2^32-2", []string{"symbol a 1 4294967294 0"}},
		{"a number of 2^64+1", []string{"symbol a 18446744073709551617 -2 0"}},
		{"a number of a thousand digits", []string{"symbol a 1 -2 1" + strings.Repeat("0", 999)}},
		{"a number with a thousand zeros", []string{"symbol a 1 -2 " + strings.Repeat("0", 999) + "1"}},
		{"nine sections", slices.Repeat([]string{"section a 1 1 0"}, 9)},
		{"thirteen symbols", slices.Repeat([]string{"symbol a 0 -2 0"}, 13)},
		{"seven fixups", append([]string{"section a 1 1 7 00000000000000", "fixup 0 1 0 0", "fixup 1 1 0 0", "fixup 2 1 0 0", "fixup 3 1 0 0", "fixup 4 1 0 0", "fixup 5 1 0 0", "fixup 6 1 0 0"}, symbol)},
		{"many sections", slices.Repeat([]string{"section a 1 1 0"}, 10000)},
		{"many symbols", slices.Repeat([]string{"symbol a 0 -2 0"}, 10000)},
		{"many fixups", slices.Insert(slices.Repeat([]string{"fixup 0 1 0 0"}, 10000), 0, section)},
		{"many empty lines", make([]string, 10000)},
		{"a long line", []string{strings.Repeat("section a 1 1 0 ", 10000)}},
		{"long bytes", []string{"section a 1 1 10000 " + strings.Repeat("00", 10000)}},
		{"a long name", []string{"section " + strings.Repeat("a", 10000) + " 1 1 0"}},
	} {
		checkLinesRefused(t, c.what, c.lines...)
		checkLines(t, c.lines)
	}
}

func TestLinesBeginWithTheirWord(t *testing.T) {
	for _, line := range []string{"section a 1 1 1 00", "section a 3 1 1", "symbol a 1 -2 0"} {
		word, rest, _ := strings.Cut(line, " ")
		for _, other := range []string{"", " ", word + " ", " " + word, word + "\t", word + "s", word[1:], word[:3], strings.ToUpper(word), strings.ToUpper(word[:1]) + word[1:], word + ":", "\"" + word + "\"", "#" + word, "header", "object", "fixup", "0", word + " " + word} {
			checkLinesRefused(t, "another word", other+" "+rest)
		}
		checkLinesRefused(t, "no space", word+rest)
	}
	for _, other := range []string{"", "fixu", "fixups", "Fixup", "FIXUP", "fixup ", " fixup", "reloc", "section", "symbol", "section a", "symbol a", "fixup fixup"} {
		checkLinesRefused(t, "another word", "section a 1 1 1 00", other+" 0 1 0 0", "symbol a 1 -2 0")
	}
}

func TestSpacesAreSingle(t *testing.T) {
	lines := allKindsLines()
	for i, line := range lines {
		for k := range len(line) + 1 {
			// Between words there is one space, at both ends and within words there is none.
			lines[i] = line[:k] + " " + line[k:]
			checkLinesRefused(t, "a space more", lines...)
			if k == len(line) || line[k] != ' ' {
				continue
			}
			for _, other := range []string{"", "\t", "\n", "\x00", ",", "_", "  ", " \t", "\u00a0"} {
				lines[i] = line[:k] + other + line[k+1:]
				checkLinesRefused(t, "no single space", lines...)
			}
		}
		lines[i] = line
	}
}

// changedLines returns what a line may become by small changes of its words and its bytes.
func changedLines(line string) []string {
	var list []string
	words := strings.Split(line, " ")
	put := func(words []string) { list = append(list, strings.Join(words, " ")) }
	for i, word := range words {
		put(slices.Delete(slices.Clone(words), i, i+1))
		for _, more := range []string{word, "", "0", "1", "00", "a"} {
			put(slices.Insert(slices.Clone(words), i, more))
		}
		others := []string{"", "0", "1", "2", "3", "4", "5", "6", "8", "47", "48", "49", "-1", "-2", "-3", "1000", "-1000", "1001", "-1001", "60000", "60001", "a", "main", "00", "ff", "section", "fixup", "symbol"}
		others = append(others, "0"+word, "+"+word, "-"+word, "--"+word, "-0"+word, word+"0", word+"00", word+".0", "0x"+word, word+"x", " "+word, word+" ", "\t"+word, word+"\t", word+"\n", "\n"+word, "\x00"+word, word+"\x00", word+"é", strings.ToUpper(word), word+"99999999999999999999", strings.TrimPrefix(word, "-"))
		if len(word) > 0 {
			others = append(others, word[1:], word[:len(word)-1])
		}
		for _, other := range others {
			changed := slices.Clone(words)
			changed[i] = other
			put(changed)
		}
		for k := range i {
			changed := slices.Clone(words)
			changed[i], changed[k] = words[k], words[i]
			put(changed)
		}
	}
	for k := range line {
		list = append(list, line[:k], line[k:], line[:k]+line[k+1:])
		for _, more := range []string{" ", "0", "-", "a", "\t", "\x00"} {
			list = append(list, line[:k]+more+line[k:])
		}
	}
	for _, more := range []string{" ", "  ", "\n", "\r\n", "\t", ".", " 0", " 00", " a", " #"} {
		list = append(list, line+more, more+line)
	}
	return list
}

// TestEveryLineIsChanged changes each line of some objects a little.
func TestEveryLineIsChanged(t *testing.T) {
	var lists [][]string
	for _, c := range objectsWithLines() {
		lists = append(lists, c.lines)
	}
	for n := range 20 {
		lists = append(lists, linesOf(mixedObject(n)))
	}
	read := 0
	for _, lines := range lists {
		for i, line := range lines {
			for _, other := range changedLines(line) {
				changed := slices.Clone(lines)
				changed[i] = other
				if checkLines(t, changed) {
					read++
				}
			}
		}
	}
	if read < 1000 {
		t.Errorf("%d objects were read", read)
	}
}

// TestEveryByteOfLinesIsChanged changes each byte of each line of one object to each other value.
func TestEveryByteOfLinesIsChanged(t *testing.T) {
	lines := allKindsLines()
	for i, line := range lines {
		for k := range len(line) {
			for n := range 256 {
				lines[i] = line[:k] + string([]byte{byte(n)}) + line[k+1:]
				checkLines(t, lines)
			}
		}
		lines[i] = line
	}
}

// TestLinesMoved leaves each line of some objects out, doubles it, and puts it elsewhere.
func TestLinesMoved(t *testing.T) {
	lists := [][]string{linesOf(fullObject()), linesOf(endsObject()), linesOf(greatestObject())}
	for _, c := range objectsWithLines() {
		lists = append(lists, c.lines)
	}
	for _, lines := range lists {
		for i, line := range lines {
			left := slices.Delete(slices.Clone(lines), i, i+1)
			checkLines(t, left)
			checkLines(t, lines[:i])
			checkLines(t, lines[i:])
			for k := range len(left) + 1 {
				checkLines(t, slices.Insert(slices.Clone(left), k, line))
			}
			for k := range len(lines) + 1 {
				checkLines(t, slices.Insert(slices.Clone(lines), k, line))
				checkLinesRefused(t, "an empty line", slices.Insert(slices.Clone(lines), k, "")...)
			}
			for k := range i {
				swapped := slices.Clone(lines)
				swapped[i], swapped[k] = lines[k], lines[i]
				checkLines(t, swapped)
			}
		}
		turned := slices.Clone(lines)
		slices.Reverse(turned)
		checkLines(t, turned)
		checkLines(t, slices.Concat(lines, lines))
	}
}

// TestAllOrdersOfLines looks at all lists of up to five lines out of some.
func TestAllOrdersOfLines(t *testing.T) {
	one := []string{"section a 1 1 2 0f10", "section b 3 4 1", "fixup 0 1 0 -5", "fixup 1 1 1 5", "symbol a 1 -2 7", "symbol b 0 0 1", "symbol c 2 -1 0"}
	lists := [][]string{nil}
	read := 0
	for from := 0; from < len(lists); from++ {
		if checkLines(t, lists[from]) {
			read++
		}
		if len(lists[from]) == 5 {
			continue
		}
		for _, line := range one {
			lists = append(lists, append(slices.Clone(lists[from]), line))
		}
	}
	if read < 300 || read > 3000 {
		t.Errorf("of %d lists of lines %d are read", len(lists), read)
	}
}

// TestFixupsAreOfTheSectionBefore moves the lines of fixups from one section to another one.
func TestFixupsAreOfTheSectionBefore(t *testing.T) {
	var fixups []impl.Fixup
	for i := range 6 {
		fixups = append(fixups, impl.Fixup{At: i, Kind: impl.FixupNear, To: i % 3, Add: -i})
	}
	for many := range 7 {
		want := impl.Object{Sections: []impl.Section{filledSection(6, fixups[:many]...), blankSection(6), filledSection(6, fixups[many:]...)}, Symbols: fixedSymbols(3)}
		lines := []string{"section code 1 1 6 000000000000"}
		for _, f := range fixups[:many] {
			lines = append(lines, fmt.Sprintf("fixup %d 1 %d %d", f.At, f.To, f.Add))
		}
		lines = append(lines, "section buf 3 8 6", "section code 1 1 6 000000000000")
		for _, f := range fixups[many:] {
			lines = append(lines, fmt.Sprintf("fixup %d 1 %d %d", f.At, f.To, f.Add))
		}
		lines = append(lines, "symbol f0 1 -2 0", "symbol f1 1 -2 1", "symbol f2 1 -2 2")
		if x, ok := impl.ReadDump(lines); !ok || !sameObject(x, want) {
			t.Errorf("%q is read as %v, %v", lines, x, ok)
		}
		if x := impl.DumpObject(want); !slices.Equal(x, lines) {
			t.Errorf("%v has the lines %q", want, x)
		}
		// A section without bytes has no fixups.
		checkLinesRefused(t, "a fixup without bytes", slices.Insert(lines, many+2, "fixup 0 1 0 0")...)
	}
}

// wordCase tells which texts one word of a line may be.
type wordCase struct {
	line, word int
	may        []string
}

// TestWhatEachWordMayBe tells which of many texts each word of one object may be changed to.
func TestWhatEachWordMayBe(t *testing.T) {
	lines := []string{"section code 1 4 6 000000000000", "fixup 1 3 1 4", "symbol main 1 0 0", "symbol puts 1 -1 0"}
	names := []string{"a", "main", "puts", "section", "fixup", "symbol", "code", "_", ".", "x.1", "abcdefgh", "ff", "a0"}
	var numbers []string
	for n := -1010; n <= 1010; n++ {
		numbers = append(numbers, strconv.Itoa(n))
	}
	texts := slices.Concat(names, numbers, wrongNames(), []string{"+1", "01", "-0", "00", "-01", "0x1", "1.", "000000000000", "00000000000f", "0123456789ab", "abcdefabcdef", "ABCDEFABCDEF", "00000000000g", "00000000000", "0000000000000", "0000000000", "00000000000000"})
	for _, c := range []wordCase{
		{0, 0, []string{"section"}},
		{0, 1, names},
		{0, 2, []string{"1", "2"}},
		{0, 3, []string{"1", "2", "4", "8"}},
		{0, 4, []string{"6"}},
		{0, 5, []string{"000000000000", "00000000000f", "0123456789ab", "abcdefabcdef"}},
		{1, 0, []string{"fixup"}},
		{1, 1, []string{"0", "1", "2"}},
		{1, 2, []string{"1", "2", "3"}},
		{1, 3, []string{"0", "1"}},
		{1, 4, numbers[10 : len(numbers)-10]},
		{2, 0, []string{"symbol"}},
		{2, 1, slices.DeleteFunc(slices.Clone(names), func(s string) bool { return s == "puts" })},
		{2, 2, []string{"0", "1", "2"}},
		{2, 3, []string{"-2", "-1", "0"}},
		{2, 4, []string{"0", "1", "2", "3", "4", "5", "6"}},
		{3, 0, []string{"symbol"}},
		{3, 1, slices.DeleteFunc(slices.Clone(names), func(s string) bool { return s == "main" })},
		{3, 2, []string{"1", "2"}},
		{3, 3, []string{"-2", "-1", "0"}},
		{3, 4, []string{"0"}},
	} {
		for _, text := range texts {
			changed := slices.Clone(lines)
			words := strings.Split(changed[c.line], " ")
			words[c.word] = text
			changed[c.line] = strings.Join(words, " ")
			if _, ok := impl.ReadDump(changed); ok != slices.Contains(c.may, text) {
				t.Errorf("with %q as word %d of line %d the lines are read: %v", text, c.word, c.line, ok)
			}
			checkLines(t, changed)
		}
	}
}

// TestChangedWordsAreReadAsWhatTheyTell says what differs in an object if one word is another one.
func TestChangedWordsAreReadAsWhatTheyTell(t *testing.T) {
	for _, c := range []struct {
		line   int
		text   string
		change func(o impl.Object)
	}{
		{0, "section t 1 4 6 000007080900", func(o impl.Object) { o.Sections[0].Name = "t" }},
		{0, "section text 2 4 6 000007080900", func(o impl.Object) { o.Sections[0].Kind = impl.SectionData }},
		{0, "section text 1 8 6 000007080900", func(o impl.Object) { o.Sections[0].Align = 8 }},
		{0, "section text 1 4 6 a00007080900", func(o impl.Object) { o.Sections[0].Bytes[0] = 160 }},
		{0, "section text 1 4 6 00000708090a", func(o impl.Object) { o.Sections[0].Bytes[5] = 10 }},
		{0, "section text 1 4 7 00000708090001", func(o impl.Object) { o.Sections[0].Bytes = []byte{0, 0, 7, 8, 9, 0, 1} }},
		{1, "fixup 1 2 1 -1000", func(o impl.Object) { o.Sections[0].Fixups[0].At = 1 }},
		{1, "fixup 0 3 1 -1000", func(o impl.Object) { o.Sections[0].Fixups[0].Kind = impl.FixupLong }},
		{1, "fixup 0 2 0 -1000", func(o impl.Object) { o.Sections[0].Fixups[0].To = 0 }},
		{1, "fixup 0 2 1 1000", func(o impl.Object) { o.Sections[0].Fixups[0].Add = 1000 }},
		{2, "fixup 4 1 2 1000", func(o impl.Object) { o.Sections[0].Fixups[1].At = 4 }},
		{3, "section bss 3 1 48", func(o impl.Object) { o.Sections[1].Align = 1 }},
		{3, "section bss 3 8 0", func(o impl.Object) { o.Sections[1].Size = 0 }},
		{3, "section bss 1 8 1 30", func(o impl.Object) {
			o.Sections[1].Kind, o.Sections[1].Size, o.Sections[1].Bytes = impl.SectionCode, 0, []byte{'0'}
		}},
		{4, "section none 2 1 2 1020", func(o impl.Object) { o.Sections[2].Bytes = []byte{16, 32} }},
		{4, "section none 3 1 2", func(o impl.Object) { o.Sections[2].Kind, o.Sections[2].Size = impl.SectionBlank, 2 }},
		{6, "fixup 0 3 2 -5", func(o impl.Object) { o.Sections[3].Fixups[0].To, o.Sections[3].Fixups[0].Add = 2, -5 }},
		{7, "symbol m 1 0 2", func(o impl.Object) { o.Symbols[0].Name = "m" }},
		{7, "symbol main 2 0 2", func(o impl.Object) { o.Symbols[0].Bind = weak }},
		{7, "symbol main 1 3 2", func(o impl.Object) { o.Symbols[0].Where = 3 }},
		{7, "symbol main 1 0 6", func(o impl.Object) { o.Symbols[0].Value = 6 }},
		{8, "symbol ext 1 -2 12345", func(o impl.Object) { o.Symbols[1].Bind, o.Symbols[1].Where, o.Symbols[1].Value = strong, fixed, 12345 }},
		{9, "symbol main 0 1 48", func(o impl.Object) { o.Symbols[2].Name, o.Symbols[2].Where, o.Symbols[2].Value = "main", 1, 48 }},
	} {
		o := allKindsObject()
		c.change(o)
		lines := allKindsLines()
		lines[c.line] = c.text
		if x, ok := impl.ReadDump(lines); !ok || !sameObject(x, o) {
			t.Errorf("with the line %q %v, %v is read", c.text, x, ok)
		}
		if x := impl.DumpObject(o); !slices.Equal(x, lines) {
			t.Errorf("%v has the lines %q, not %q", o, x, lines)
		}
	}
}

// TestDifferentObjectsHaveDifferentLines says that an object can be told from its lines as it can from its bytes.
func TestDifferentObjectsHaveDifferentLines(t *testing.T) {
	dumped := map[string]string{}
	for _, o := range dumpedObjects() {
		lines, b := strings.Join(impl.DumpObject(o), "\n"), string(impl.WriteObject(o))
		if other, twice := dumped[lines]; twice && other != b {
			t.Errorf("%v and another object have the lines %q", o, lines)
		}
		dumped[lines] = b
	}
}

func TestDumpedObjectsAreLeftAlone(t *testing.T) {
	for _, o := range append(dumpedObjects(), otherObjects()...) {
		was := cloneObject(o)
		first, second := impl.DumpObject(o), impl.DumpObject(o)
		want := slices.Clone(second)
		fillUp(first, "other")
		if !reflect.DeepEqual(o, was) {
			t.Errorf("%v was changed to %v", was, o)
		}
		if !slices.Equal(second, want) || !slices.Equal(impl.DumpObject(o), want) {
			t.Errorf("two results for %v share memory", o)
		}
		for i := range o.Sections {
			fillUp(o.Sections[i].Bytes, 77)
			fillUp(o.Sections[i].Fixups, impl.Fixup{At: 77})
		}
		if !slices.Equal(second, want) {
			t.Errorf("%q change with their object", want)
		}
	}
}

func TestObjectsOfLinesHaveTheirOwnMemory(t *testing.T) {
	for _, o := range dumpedObjects() {
		lines := impl.DumpObject(o)
		// There is room behind the lines, which is not the object's, either.
		lines = append(lines, make([]string, 20)...)[:len(lines)]
		was := slices.Clone(lines[:cap(lines)])
		first, _ := impl.ReadDump(lines)
		second, ok := impl.ReadDump(lines)
		if !ok || !slices.Equal(lines[:cap(lines)], was) {
			t.Errorf("reading %v, %v changes the lines", second, ok)
		}
		fillUp(lines, "other")
		if !sameObject(first, o) || !sameObject(second, o) {
			t.Errorf("%v changes with its lines to %v", o, first)
		}
		checkApart(t, first)
		fillUp(first.Sections, impl.Section{Name: "other"})
		fillUp(first.Symbols, impl.Symbol{Name: "other"})
		if !sameObject(second, o) {
			t.Errorf("two results for %v share memory", o)
		}
	}
}

// TestLinesAndBytesTellTheSame goes from lines to bytes and back.
func TestLinesAndBytesTellTheSame(t *testing.T) {
	for _, o := range dumpedObjects() {
		lines := impl.DumpObject(o)
		told, _ := impl.ReadDump(lines)
		read, ok := impl.ReadObject(impl.WriteObject(told))
		if !ok || !slices.Equal(impl.DumpObject(read), lines) {
			t.Errorf("%q become %q", lines, impl.DumpObject(read))
		}
	}
}
