package tests

import (
	"bytes"
	"math"
	"slices"
	"strconv"
	"strings"
	"testing"

	"loop.example/objectlinker/impl"
)

// nameLists are lists of valid names, some with names that are ends of others.
func nameLists() [][]string {
	return [][]string{
		nil,
		{},
		{"a"},
		{"main", "in"},
		{"in", "main"},
		{"main", "in", "puts", "in"},
		{"puts", "main", "uts", "ts", "s", "in", "n", "ain"},
		{"a", "aa", "aaa", "aaaa", "aaaaaaaa", "aaaaaaa"},
		{"b", "ab", "cb", "acb", "bcb", "bb"},
		{"_", ".", "_.", "._", "z_", "z.", "z9", "z", "a9"},
		{"ab", "abab", "ba", "baba", "bab"},
		{"abc", "ab", "a", "bcd", "bc"},
		{"x.1", "x_1", "x1", "x.10", "x.2", "_1"},
		manyNames(40, "q"),
		manyNames(39, "ww"),
	}
}

// manyNames returns different names that begin with a text and end with a number.
func manyNames(many int, first string) []string {
	var names []string
	for i := range many {
		names = append(names, first+strconv.Itoa(i))
	}
	return names
}

// wrongNames are texts that are no names.
func wrongNames() []string {
	return []string{
		"", " ", "a ", " a", "a b", "1", "1a", "0", "9", "9z", "0_", "A", "aB", "Zz", "-", "a-b", "a@", "a/", "a:", "a`", "a{", "a^", "a|", "a\x00", "\x00", "\x00a",
		"a\n", "\xff", "a\xff", "é", "aé", "ａ", "abcdefghi", "abcdefgh ", "a23456789", "_________", strings.Repeat("a", 256+3), strings.Repeat("a", 1000),
	}
}

// tableOf returns the table of names as the document tells it, without a tree.
func tableOf(names []string) []byte {
	sorted := slices.Clone(names)
	slices.Sort(sorted)
	table := []byte{0}
	for i, name := range sorted {
		whole := i == 0 || sorted[i-1] != name
		for _, other := range sorted {
			if other != name && strings.HasSuffix(other, name) {
				whole = false
			}
		}
		if whole {
			table = append(append(table, name...), 0)
		}
	}
	return table
}

// someTables are tables of names, and bytes that are not tables of names.
func someTables() [][]byte {
	list := [][]byte{
		nil,
		{},
		{0},
		{0, 0},
		{0, 0, 0},
		[]byte("a"),
		[]byte("ab"),
		[]byte("ab\x00"),
		[]byte("\x00ab"),
		[]byte("\x00ab\x00ab"),
		[]byte("\x00ab\x00ab\x00"),
		[]byte("ab\x00b\x00"),
		[]byte("b\x00ab\x00"),
		[]byte("\x00aaaa\x00aa\x00a"),
		[]byte("\x00A b\xff\x00\x80\x00"),
		[]byte("\x00a\x00\x00b\x00"),
		[]byte("abcdefghijkl\x00mn"),
	}
	for _, names := range nameLists() {
		list = append(list, impl.NameTable(names))
	}
	return list
}

// textsAt returns the text at each place of a table; for the places without one there is none.
func textsAt(table []byte) map[int]string {
	texts := map[int]string{}
	for at := range table {
		for end := at; end < len(table); end++ {
			if table[end] == 0 {
				texts[at] = string(table[at:end])
				break
			}
		}
	}
	return texts
}

func TestNameValidAcceptsNames(t *testing.T) {
	for _, s := range []string{"a", "z", "m", "_", ".", "_1", ".1", "a0", "a9", "a_", "a.", "_x.1", "....", "____", "abcdefgh", "z1234567", "________", "........", "main", "in"} {
		if !impl.NameValid(s) {
			t.Errorf("NameValid(%q) is false", s)
		}
	}
}

func TestNameValidRefusesOtherTexts(t *testing.T) {
	for _, s := range wrongNames() {
		if impl.NameValid(s) {
			t.Errorf("NameValid(%q) is true", s)
		}
	}
}

func TestNameValidAsksForEveryByte(t *testing.T) {
	const digits, others = "0123456789", "abcdefghijklmnopqrstuvwxyz_."
	for b := range 256 {
		one := string([]byte{byte(b)})
		first := strings.Contains(others, one)
		later := first || strings.Contains(digits, one)
		if x := impl.NameValid(one); x != first {
			t.Errorf("NameValid(%q) is %v", one, x)
		}
		for _, s := range []string{"a" + one, "abc" + one, "a" + one + "a", "abcdefg" + one, "abcdef" + one + "h"} {
			if x := impl.NameValid(s); x != later {
				t.Errorf("NameValid(%q) is %v", s, x)
			}
		}
		if x := impl.NameValid(one + "bcdefgh"); x != first {
			t.Errorf("NameValid(%q) is %v", one+"bcdefgh", x)
		}
	}
}

func TestNameValidCountsBytes(t *testing.T) {
	for size := range 300 {
		want := size >= 1 && size <= impl.MaxName
		if x := impl.NameValid(strings.Repeat("n", size)); x != want {
			t.Errorf("a text of %d letters is a name: %v", size, x)
		}
	}
}

func TestTheLimitsOfNames(t *testing.T) {
	if impl.MaxName != 8 || impl.MaxNames != 40 {
		t.Errorf("MaxName is %d, MaxNames is %d", impl.MaxName, impl.MaxNames)
	}
}

func TestNameTableHasTheNamesByTheirBytes(t *testing.T) {
	for _, c := range []struct {
		names []string
		want  string
	}{
		{nil, "\x00"},
		{[]string{}, "\x00"},
		{[]string{"main", "in"}, "\x00main\x00"},
		{[]string{"in", "main"}, "\x00main\x00"},
		{[]string{"puts", "main", "in", "in", "puts"}, "\x00main\x00puts\x00"},
		{[]string{"in", "in", "in"}, "\x00in\x00"},
		{[]string{"abc", "ab", "a"}, "\x00a\x00ab\x00abc\x00"},
		{[]string{"c", "bc", "abc"}, "\x00abc\x00"},
		{[]string{"abc", "xbc", "bc"}, "\x00abc\x00xbc\x00"},
		{[]string{"z", "a", "_", ".", "a1", "a.", "a_", "aa"}, "\x00a.\x00a1\x00a_\x00aa\x00z\x00"},
		{[]string{"b", "a_", "_b"}, "\x00_b\x00a_\x00"},
		{[]string{"abcdefgh", "h", "gh", "bcdefgh"}, "\x00abcdefgh\x00"},
	} {
		if x := impl.NameTable(c.names); string(x) != c.want {
			t.Errorf("NameTable(%q) = %q, not %q", c.names, x, c.want)
		}
	}
}

func TestNameTableOfManyNames(t *testing.T) {
	for _, names := range nameLists() {
		if x := impl.NameTable(names); !bytes.Equal(x, tableOf(names)) {
			t.Errorf("NameTable(%q) = %q, not %q", names, x, tableOf(names))
		}
	}
	var long []string
	for i := range 40 {
		long = append(long, "nnnnnn"+string([]byte{byte('a' + i/20), byte('a' + i%20)}))
	}
	if x := impl.NameTable(long); len(x) != 1+40*9 || !bytes.Equal(x, tableOf(long)) {
		t.Errorf("the longest table has %d bytes", len(x))
	}
}

// TestNameTableOfShortNames looks at all lists of up to four names out of a few that are ends of each other.
func TestNameTableOfShortNames(t *testing.T) {
	few := []string{"a", "b", "aa", "ab", "ba", "bab", "aba", "baba"}
	lists := [][]string{{}}
	for range 4 {
		var longer [][]string
		for _, list := range lists {
			for _, name := range few {
				longer = append(longer, append(slices.Clone(list), name))
			}
		}
		for _, names := range longer {
			if x := impl.NameTable(names); !bytes.Equal(x, tableOf(names)) {
				t.Errorf("NameTable(%q) = %q, not %q", names, x, tableOf(names))
			}
		}
		lists = longer
	}
}

func TestNameTableRefusesOtherNames(t *testing.T) {
	for _, wrong := range wrongNames() {
		for _, names := range [][]string{{wrong}, {"a", wrong}, {wrong, "a"}, {"main", wrong, "in"}} {
			if x := impl.NameTable(names); len(x) != 0 {
				t.Errorf("NameTable(%q) = %q", names, x)
			}
		}
	}
}

func TestNameTableRefusesTooManyNames(t *testing.T) {
	if x := impl.NameTable(manyNames(40, "q")); len(x) == 0 {
		t.Error("40 names have no table")
	}
	same := make([]string, 41)
	for i := range same {
		same[i] = "a"
	}
	if x := impl.NameTable(same[:40]); string(x) != "\x00a\x00" {
		t.Errorf("one name 40 times has the table %q", x)
	}
	// It is the length of the list that counts, not how many different names there are.
	for _, names := range [][]string{manyNames(41, "q"), same, manyNames(100, "q")} {
		if x := impl.NameTable(names); len(x) != 0 {
			t.Errorf("%d names have the table %q", len(names), x)
		}
	}
}

func TestNameTableLeavesItsNamesAlone(t *testing.T) {
	names := []string{"puts", "main", "in", "main", "b", "a"}
	before := slices.Clone(names)
	a, b := impl.NameTable(names[:5]), impl.NameTable(names[:5])
	if !slices.Equal(names, before) {
		t.Errorf("NameTable changed its names to %q", names)
	}
	for i := range a {
		a[i] = 'x'
	}
	if string(b) != "\x00b\x00main\x00puts\x00" || !bytes.Equal(impl.NameTable(names[:5]), b) {
		t.Errorf("results share memory: %q", b)
	}
}

func TestNameAtEndsAtTheNextByte0(t *testing.T) {
	for _, table := range someTables() {
		before := bytes.Clone(table)
		texts := textsAt(table)
		for at := range table {
			want, there := texts[at]
			if x, ok := impl.NameAt(table, at); x != want || ok != there {
				t.Errorf("NameAt(%q, %d) = %q, %v, not %q, %v", table, at, x, ok, want, there)
			}
		}
		if !bytes.Equal(table, before) {
			t.Errorf("NameAt changed its table to %q", table)
		}
	}
}

func TestNameAtRefusesOtherPlaces(t *testing.T) {
	for _, table := range someTables() {
		size := len(table)
		for _, at := range []int{math.MinInt, -size - 1, -size, -2, -1, size, size + 1, 2*size + 1, math.MaxInt - 1, math.MaxInt} {
			// Where the table is empty, -size is its end.
			if x, ok := impl.NameAt(table, at); x != "" || ok {
				t.Errorf("NameAt(%q, %d) = %q, %v", table, at, x, ok)
			}
		}
	}
	// What stands behind the length is not of the table, though it is there.
	long := []byte("\x00ab\x00")
	for at := -1; at <= 4; at++ {
		if x, ok := impl.NameAt(long[:3], at); (x != "" || ok) && at != 0 {
			t.Errorf("NameAt(%q, %d) = %q, %v", long[:3], at, x, ok)
		}
	}
}

func TestPlaceOfIsTheFirstPlace(t *testing.T) {
	for _, table := range someTables() {
		before := bytes.Clone(table)
		texts := textsAt(table)
		var all []string
		for _, text := range texts {
			all = append(all, text, text+"x", "x"+text, text+"\x00", "\x00"+text, strings.TrimSuffix(text, "s"))
		}
		all = append(all, "", "a", "b", "in", "put", "\x00", "a\x00", "a\x00\x00b", "\x00ab", "ab\x00ab", "aaaaaaaaaaaaaaaaaaaaaaaaaaaaa", string(table))
		for _, text := range all {
			want := -1
			for at := len(table) - 1; at >= 0; at-- {
				if x, there := texts[at]; there && x == text {
					want = at
				}
			}
			if x := impl.PlaceOf(table, text); x != want {
				t.Errorf("PlaceOf(%q, %q) = %d, not %d", table, text, x, want)
			}
		}
		if !bytes.Equal(table, before) {
			t.Errorf("PlaceOf changed its table to %q", table)
		}
	}
}

func TestPlaceOfWhatIsThereAndWhatIsNot(t *testing.T) {
	for _, c := range []struct {
		table, name string
		want        int
	}{
		{"\x00main\x00", "in", 3},
		{"\x00main\x00", "main", 1},
		{"\x00main\x00", "n", 4},
		{"\x00main\x00", "", 0},
		{"\x00main\x00", "mai", -1},
		{"\x00main\x00", "ma", -1},
		{"\x00main\x00", "xmain", -1},
		{"\x00main\x00", "Main", -1},
		{"\x00main", "main", -1},
		{"\x00main", "in", -1},
		{"\x00main", "", 0},
		{"main\x00", "", 4},
		{"main\x00", "main", 0},
		{"main", "", -1},
		{"", "", -1},
		{"", "a", -1},
		{"\x00", "", 0},
		{"\x00", "\x00", -1},
		{"\x00a\x00b\x00", "a\x00b", -1},
		{"\x00a\x00b\x00", "\x00a", -1},
		{"\x00a\x00b\x00", "b\x00", -1},
		{"a\x00a\x00", "a", 0},
		{"\x00ab\x00b\x00", "b", 2},
		{"\x00ba\x00b\x00", "b", 4},
		{"\x00aaa\x00", "aa", 2},
		{"\x00A \xff\x00", " \xff", 2},
		{"\x00\x00a", "a", -1},
		{"b\x00a", "a", -1},
	} {
		if x := impl.PlaceOf([]byte(c.table), c.name); x != c.want {
			t.Errorf("PlaceOf(%q, %q) = %d, not %d", c.table, c.name, x, c.want)
		}
	}
	// What stands behind the length is not of the table, though it is there.
	if x := impl.PlaceOf([]byte("\x00ab\x00")[:3], "ab"); x != -1 {
		t.Errorf("a text is found up to a byte 0 behind the table, at %d", x)
	}
}

func TestPlaceOfInALongTable(t *testing.T) {
	const size = 1 << 20
	for _, b := range []byte{0, 'a'} {
		table := append(bytes.Repeat([]byte{b}, size), "x\x00"...)
		want := size
		if x := impl.PlaceOf(table, "x"); x != want {
			t.Errorf("the last text of a long table is at %d, not at %d", x, want)
		}
		if x := impl.PlaceOf(table, "y"); x != -1 {
			t.Errorf("a text that is not in a long table is at %d", x)
		}
	}
}

// Promise 1: tables have all names.
func TestPromise1(t *testing.T) {
	for _, names := range nameLists() {
		table := impl.NameTable(names)
		for _, name := range names {
			at := impl.PlaceOf(table, name)
			if at < 1 || at >= len(table) {
				t.Errorf("%q is at %d in the table of %q", name, at, names)
			}
			if x, ok := impl.NameAt(table, at); x != name || !ok {
				t.Errorf("at the place of %q in the table of %q is %q, %v", name, names, x, ok)
			}
		}
		turned := slices.Clone(names)
		slices.Reverse(turned)
		if x := impl.NameTable(turned); !bytes.Equal(x, table) {
			t.Errorf("the table of %q is %q, and that of the names turned round %q", names, table, x)
		}
		for i := range names {
			other := append(slices.Clone(names[i:]), names[:i]...)
			if x := impl.NameTable(other); !bytes.Equal(x, table) {
				t.Errorf("the table of %q is %q, and that of %q is %q", names, table, other, x)
			}
		}
	}
}

// Promise 31: names have letters.
func TestPromise31(t *testing.T) {
	names := []string{"a", "z", "_", ".", "a1", "_1", ".1", "abcdefg", "abcdefgh", "main", "x.1"}
	for _, list := range nameLists() {
		names = append(names, list...)
	}
	for _, name := range names {
		if !impl.NameValid(name) || !impl.NameValid(name[:1]) {
			t.Errorf("%q is a name: %v, and its first letter: %v", name, impl.NameValid(name), impl.NameValid(name[:1]))
		}
	}
	for _, s := range append(names, wrongNames()...) {
		if impl.NameValid(s + " ") {
			t.Errorf("%q with a space behind it is a name", s)
		}
		if impl.NameValid(s) && !impl.NameValid(s[:1]) {
			t.Errorf("the first letter of %q is no name", s)
		}
	}
}

// Promise 32: texts in tables end with a byte 0.
func TestPromise32(t *testing.T) {
	for _, table := range someTables() {
		for at := range table {
			text, ok := impl.NameAt(table, at)
			if !ok {
				continue
			}
			end := at + len(text)
			if end >= len(table) || table[end] != 0 || strings.Contains(text, "\x00") {
				t.Fatalf("the text %q at %d of %q does not end with a byte 0", text, at, table)
			}
			if text == "" {
				continue
			}
			if rest, ok := impl.NameAt(table, at+1); rest != text[1:] || !ok {
				t.Errorf("behind the first byte of %q at %d of %q is %q, %v", text, at, table, rest, ok)
			}
		}
	}
}

// Promise 33: places have names.
func TestPromise33(t *testing.T) {
	for _, table := range someTables() {
		texts := []string{"", "a", "b", "x", "in", "main", "\x00", "a\x00b"}
		for at := range table {
			if text, ok := impl.NameAt(table, at); ok {
				texts = append(texts, text)
			}
		}
		for _, text := range texts {
			at := impl.PlaceOf(table, text)
			before := at
			if at < 0 {
				before = len(table)
			} else if x, ok := impl.NameAt(table, at); x != text || !ok {
				t.Errorf("at the place %d of %q in %q is %q, %v", at, text, table, x, ok)
			}
			for i := range before {
				if x, ok := impl.NameAt(table, i); ok && x == text {
					t.Errorf("%q is at %d of %q, before %d", text, i, table, at)
				}
			}
		}
	}
}

// Promise 86: tables share ends.
func TestPromise86(t *testing.T) {
	for _, names := range nameLists() {
		table := impl.NameTable(names)
		for _, name := range names {
			for i := range name {
				end := name[i:]
				if !impl.NameValid(end) {
					continue
				}
				for _, more := range [][]string{append(slices.Clone(names), end), append([]string{end}, names...)} {
					x := impl.NameTable(more)
					if len(x) > len(table) {
						t.Errorf("with the end %q the table of %q has %d bytes more", end, names, len(x)-len(table))
					}
					// With a name more than MaxNames there is no table at all.
					if len(more) <= impl.MaxNames && !bytes.Equal(x, table) {
						t.Errorf("with the end %q the table of %q is %q, not %q", end, names, x, table)
					}
				}
			}
		}
	}
}
