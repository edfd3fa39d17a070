package tests

import (
	"fmt"
	"math"
	"reflect"
	"slices"
	"strings"
	"testing"

	"loop.example/objectlinker/impl"
)

// isLocal reports whether a symbol is for its object alone.
func isLocal(s impl.Symbol) bool { return s.Bind == local }

// usesOf returns how many fixups of an object use a symbol.
func usesOf(o impl.Object, k int) int {
	uses := 0
	for _, s := range o.Sections {
		for _, f := range s.Fixups {
			if f.To == k {
				uses++
			}
		}
	}
	return uses
}

// strippedOf strips a valid object as the document tells it, by a list of the numbers that stay.
func strippedOf(o impl.Object, mayGo func(impl.Symbol) bool) impl.Object {
	x := cloneObject(o)
	x.Symbols = nil
	var stay []int
	for k, s := range o.Symbols {
		if usesOf(o, k) > 0 || !mayGo(s) {
			stay = append(stay, k)
			x.Symbols = append(x.Symbols, s)
		}
	}
	for _, s := range x.Sections {
		for i, f := range s.Fixups {
			s.Fixups[i].To = slices.Index(stay, f.To)
		}
	}
	return x
}

// hiddenOf hides names of a valid object as the document tells it.
func hiddenOf(o impl.Object, keep []string) impl.Object {
	x := cloneObject(o)
	kept := map[string]bool{}
	for _, name := range keep {
		kept[name] = true
	}
	for k := range x.Symbols {
		if s := &x.Symbols[k]; !kept[s.Name] && s.Where != none {
			s.Bind = local
		}
	}
	return x
}

// stripping is one of the functions that strip, and which symbols may go by it.
type stripping struct {
	what  string
	strip func(impl.Object) impl.Object
	mayGo func(impl.Symbol) bool
}

// strippings are the functions that strip.
func strippings() []stripping {
	return []stripping{{"StripLocals", impl.StripLocals, isLocal}, {"StripWanted", impl.StripWanted, isWanted}}
}

// checkStripped holds a valid object, stripped, against what it should be.
func checkStripped(t *testing.T, o impl.Object) {
	t.Helper()
	for _, c := range strippings() {
		want := strippedOf(o, c.mayGo)
		x := c.strip(o)
		if !sameObject(x, want) || !impl.ObjectValid(x) {
			t.Errorf("%s makes %v of %v, not %v", c.what, x, o, want)
		}
	}
}

// checkHidden holds a valid object with hidden names against what it should be.
func checkHidden(t *testing.T, o impl.Object, keep ...string) {
	t.Helper()
	want := hiddenOf(o, keep)
	x := impl.HideNames(o, keep)
	if !sameObject(x, want) || !impl.ObjectValid(x) {
		t.Errorf("of %v with the names %q %v is made, not %v", o, keep, x, want)
	}
}

// checkNotStripped says that each of the functions returns the zero value for an object.
func checkNotStripped(t *testing.T, what string, o impl.Object) {
	t.Helper()
	was := cloneObject(o)
	if impl.ObjectValid(o) {
		t.Errorf("%s: %v is valid", what, o)
	}
	results := []impl.Object{impl.StripLocals(o), impl.StripWanted(o), impl.HideNames(o, nil), impl.HideNames(o, []string{}), impl.HideNames(o, []string{"give", "other"}), impl.HideNames(o, namesIn(o))}
	for i, x := range results {
		if !reflect.DeepEqual(x, impl.Object{}) {
			t.Errorf("%s: the result %d for %v is %v", what, i, o, x)
		}
	}
	if !sameObject(o, was) {
		t.Errorf("%s: %v was changed to %v", what, was, o)
	}
}

// usingObject returns an object with these symbols, in which one fixup uses each symbol with a number in a list.
func usingObject(symbols []impl.Symbol, used ...int) impl.Object {
	o := impl.Object{Sections: []impl.Section{{Name: "text", Kind: impl.SectionCode, Align: 4, Bytes: bytesFrom(1, 8)}}, Symbols: symbols}
	for i, k := range used {
		if i > 0 && i%6 == 0 {
			o.Sections = append(o.Sections, impl.Section{Name: "data", Kind: impl.SectionData, Align: 2, Bytes: bytesFrom(i, 7)})
		}
		last := &o.Sections[len(o.Sections)-1]
		last.Fixups = append(last.Fixups, impl.Fixup{At: i % 6, Kind: impl.FixupNear, To: k, Add: 10*k - i})
	}
	return o
}

// kindSymbols returns symbols of many kinds with different names, beginning with one of them.
func kindSymbols(first, many int) []impl.Symbol {
	kinds := []impl.Symbol{
		{Bind: local, Where: 0, Value: 8},
		{Bind: strong, Where: none},
		{Bind: strong, Where: 0, Value: 3},
		{Bind: weak, Where: none},
		{Bind: local, Where: fixed, Value: 60000},
		{Bind: weak, Where: fixed, Value: 7},
		{Bind: strong, Where: fixed},
		{Bind: weak, Where: 0},
	}
	var list []impl.Symbol
	for i, name := range manyNames(many, "k") {
		s := kinds[(first+i)%len(kinds)]
		s.Name = name
		list = append(list, s)
	}
	return list
}

// numbersIn returns the numbers whose bits are in a mask.
func numbersIn(mask, many int) []int {
	var list []int
	for k := range many {
		if mask&(1<<k) != 0 {
			list = append(list, k)
		}
	}
	return list
}

// keepLists are lists of names, some of an object, some not, and some that are no names.
func keepLists(o impl.Object) [][]string {
	var names []string
	for _, s := range o.Symbols {
		names = append(names, s.Name)
	}
	given, wanted := impl.NamesGiven(o), impl.NamesWanted(o)
	lists := [][]string{nil, {}, {"other"}, {""}, {"no"}, wrongNames(), given, wanted, names, slices.Concat(given, given), slices.Concat(wrongNames(), given, []string{"other"}), manyNames(1000, "x"), namesIn(o)}
	for i, name := range names {
		lists = append(lists, []string{name}, []string{name, name}, []string{name + " ", " " + name, strings.ToUpper(name), name + "\x00", name[1:], name + "x"}, names[:i], names[i:])
	}
	return lists
}

// Promise 49: hidden names are not given.
func TestPromise49(t *testing.T) {
	for _, o := range dumpedObjects() {
		given := impl.NamesGiven(o)
		for i := range len(given) + 1 {
			for _, keep := range [][]string{given[:i], given[i:], append(slices.Clone(given[i:]), "other", "", "no name")} {
				x := impl.HideNames(o, keep)
				for _, name := range impl.NamesGiven(x) {
					if !slices.Contains(keep, name) {
						t.Errorf("of %v with the names %q %v is made, which gives %q", o, keep, x, name)
					}
				}
				// What is kept and was given is given still.
				for _, name := range keep {
					if slices.Contains(given, name) != slices.Contains(impl.NamesGiven(x), name) {
						t.Errorf("of %v with the names %q %v is made, which gives %q", o, keep, x, impl.NamesGiven(x))
					}
				}
			}
		}
		if x := impl.HideNames(o, given); !sameObject(x, o) {
			t.Errorf("with all names that it gives %v becomes %v", o, x)
		}
		if x := impl.HideNames(o, nil); len(impl.NamesGiven(x)) != 0 {
			t.Errorf("without names %v becomes %v", o, x)
		}
	}
}

func TestObjectsAreStripped(t *testing.T) {
	for _, o := range dumpedObjects() {
		checkStripped(t, o)
	}
}

// fewObjects are valid objects, not as many as dumpedObjects, for what is looked at with many lists each.
func fewObjects() []impl.Object {
	list := append(edgeObjects(), someObjects()...)
	for n := range 200 {
		list = append(list, mixedObject(n))
	}
	return list
}

func TestNamesAreHidden(t *testing.T) {
	for _, o := range fewObjects() {
		for _, keep := range keepLists(o) {
			checkHidden(t, o, keep...)
		}
	}
}

// strippedLines are the lines of an object, and those of what each function makes of it.
type strippedLines struct {
	what           string
	lines          []string
	locals, wanted []string
	keep           []string
	hidden         []string
}

// toldLines are objects whose stripped objects are told.
func toldLines() []strippedLines {
	return []strippedLines{
		{"nothing", nil, nil, nil, []string{"a"}, nil},
		{
			"an object with all kinds",
			[]string{"section code 1 4 6 000000000000", "fixup 1 3 2 4", "symbol a 0 0 0", "symbol main 1 0 0", "symbol b 0 0 1", "symbol w 1 -1 0"},
			[]string{"section code 1 4 6 000000000000", "fixup 1 3 1 4", "symbol main 1 0 0", "symbol b 0 0 1", "symbol w 1 -1 0"},
			[]string{"section code 1 4 6 000000000000", "fixup 1 3 2 4", "symbol a 0 0 0", "symbol main 1 0 0", "symbol b 0 0 1"},
			[]string{"other"},
			[]string{"section code 1 4 6 000000000000", "fixup 1 3 2 4", "symbol a 0 0 0", "symbol main 0 0 0", "symbol b 0 0 1", "symbol w 1 -1 0"},
		},
		{
			"fixups of several sections",
			[]string{"section a 1 1 3 010203", "fixup 0 1 4 -5", "fixup 1 2 1 0", "section b 3 8 9", "section c 2 2 4 04050607", "fixup 0 3 6 1000",
				"symbol l0 0 0 1", "symbol w1 2 -1 0", "symbol w2 1 -1 0", "symbol l3 0 -2 9", "symbol l4 0 1 9", "symbol s5 1 2 4", "symbol w6 2 -1 0", "symbol l7 0 -2 60000", "symbol w8 1 -1 0"},
			[]string{"section a 1 1 3 010203", "fixup 0 1 2 -5", "fixup 1 2 0 0", "section b 3 8 9", "section c 2 2 4 04050607", "fixup 0 3 4 1000",
				"symbol w1 2 -1 0", "symbol w2 1 -1 0", "symbol l4 0 1 9", "symbol s5 1 2 4", "symbol w6 2 -1 0", "symbol w8 1 -1 0"},
			[]string{"section a 1 1 3 010203", "fixup 0 1 3 -5", "fixup 1 2 1 0", "section b 3 8 9", "section c 2 2 4 04050607", "fixup 0 3 5 1000",
				"symbol l0 0 0 1", "symbol w1 2 -1 0", "symbol l3 0 -2 9", "symbol l4 0 1 9", "symbol s5 1 2 4", "symbol w6 2 -1 0", "symbol l7 0 -2 60000"},
			[]string{"w1", "l4"},
			[]string{"section a 1 1 3 010203", "fixup 0 1 4 -5", "fixup 1 2 1 0", "section b 3 8 9", "section c 2 2 4 04050607", "fixup 0 3 6 1000",
				"symbol l0 0 0 1", "symbol w1 2 -1 0", "symbol w2 1 -1 0", "symbol l3 0 -2 9", "symbol l4 0 1 9", "symbol s5 0 2 4", "symbol w6 2 -1 0", "symbol l7 0 -2 60000", "symbol w8 1 -1 0"},
		},
		{
			"the same name, local and not",
			[]string{"section a 1 1 1 00", "fixup 0 1 1 0", "symbol x 0 0 0", "symbol x 0 0 1", "symbol x 1 -1 0", "symbol y 0 -2 1", "symbol y 2 -2 2"},
			[]string{"section a 1 1 1 00", "fixup 0 1 0 0", "symbol x 0 0 1", "symbol x 1 -1 0", "symbol y 2 -2 2"},
			[]string{"section a 1 1 1 00", "fixup 0 1 1 0", "symbol x 0 0 0", "symbol x 0 0 1", "symbol y 0 -2 1", "symbol y 2 -2 2"},
			[]string{"x"},
			[]string{"section a 1 1 1 00", "fixup 0 1 1 0", "symbol x 0 0 0", "symbol x 0 0 1", "symbol x 1 -1 0", "symbol y 0 -2 1", "symbol y 0 -2 2"},
		},
		{
			"symbols alone",
			[]string{"symbol a 0 -2 1", "symbol b 1 -1 0", "symbol c 2 -1 0", "symbol d 1 -2 2", "symbol e 2 -2 3"},
			[]string{"symbol b 1 -1 0", "symbol c 2 -1 0", "symbol d 1 -2 2", "symbol e 2 -2 3"},
			[]string{"symbol a 0 -2 1", "symbol d 1 -2 2", "symbol e 2 -2 3"},
			[]string{"e", "a"},
			[]string{"symbol a 0 -2 1", "symbol b 1 -1 0", "symbol c 2 -1 0", "symbol d 0 -2 2", "symbol e 2 -2 3"},
		},
		{
			"sections alone",
			[]string{"section a 1 1 1 ff", "section a 3 1 48", "section a 2 8 0"},
			[]string{"section a 1 1 1 ff", "section a 3 1 48", "section a 2 8 0"},
			[]string{"section a 1 1 1 ff", "section a 3 1 48", "section a 2 8 0"},
			nil,
			[]string{"section a 1 1 1 ff", "section a 3 1 48", "section a 2 8 0"},
		},
	}
}

func TestLinesOfStrippedObjects(t *testing.T) {
	for _, c := range toldLines() {
		o, ok := impl.ReadDump(c.lines)
		if !ok {
			t.Errorf("%s is no object", c.what)
		}
		if x := impl.DumpObject(impl.StripLocals(o)); !slices.Equal(x, c.locals) {
			t.Errorf("%s is without local symbols %q", c.what, x)
		}
		if x := impl.DumpObject(impl.StripWanted(o)); !slices.Equal(x, c.wanted) {
			t.Errorf("%s is without wanted symbols %q", c.what, x)
		}
		if x := impl.DumpObject(impl.HideNames(o, c.keep)); !slices.Equal(x, c.hidden) {
			t.Errorf("%s is with hidden names %q", c.what, x)
		}
	}
}

// TestEverySetOfSymbolsIsUsed looks at every set of symbols that fixups may use, among every number of symbols.
func TestEverySetOfSymbolsIsUsed(t *testing.T) {
	for many := range 13 {
		for first := range 8 {
			symbols := kindSymbols(first, many)
			for mask := range 1 << many {
				checkStripped(t, usingObject(symbols, numbersIn(mask, many)...))
			}
		}
	}
}

// TestEverySetOfSymbolsGoes looks at every set of symbols that may go, with no symbol used, one, every other one, and all.
func TestEverySetOfSymbolsGoes(t *testing.T) {
	for _, goes := range []impl.Symbol{{Bind: local, Where: fixed, Value: 5}, {Bind: local, Where: 0}, {Bind: strong, Where: none}, {Bind: weak, Where: none}} {
		for many := range 13 {
			for mask := range 1 << many {
				symbols := fixedSymbols(many)
				for _, k := range numbersIn(mask, many) {
					name := symbols[k].Name
					symbols[k] = goes
					symbols[k].Name = name
				}
				for _, used := range []int{0, 1, 0xaaa, 0x555, 0xfff} {
					checkStripped(t, usingObject(symbols, numbersIn(used, many)...))
				}
			}
		}
	}
}

func TestOneSymbolGoes(t *testing.T) {
	for many := 1; many <= 12; many++ {
		for k := range many {
			for _, c := range strippings() {
				for _, goes := range []impl.Symbol{{Name: "goes", Bind: local, Where: 0, Value: 2}, {Name: "goes", Bind: weak, Where: none}} {
					symbols := fixedSymbols(many)
					symbols[k] = goes
					var others []int
					for i := range many {
						if i != k {
							others = append(others, i)
						}
					}
					o := usingObject(symbols, others...)
					x := c.strip(o)
					if !c.mayGo(goes) {
						if !sameObject(x, o) {
							t.Errorf("%s makes %v of %v", c.what, x, o)
						}
						continue
					}
					if len(x.Symbols) != many-1 || !slices.Equal(x.Symbols, slices.Delete(slices.Clone(symbols), k, k+1)) {
						t.Errorf("%s leaves the symbols %v of %v", c.what, x.Symbols, symbols)
					}
					for i, number := range others {
						// The others are used one after the other, six in a section.
						if to := x.Sections[i/6].Fixups[i%6].To; to != i || x.Symbols[to] != symbols[number] {
							t.Errorf("%s makes %d of the symbol %d of %v", c.what, to, number, symbols)
						}
					}
					if x := c.strip(usingObject(symbols, k)); len(x.Symbols) != many || x.Sections[0].Fixups[0].To != k {
						t.Errorf("%s takes a symbol that is used from %v: %v", c.what, symbols, x)
					}
				}
			}
		}
	}
}

func TestAllSymbolsGo(t *testing.T) {
	for many := range 13 {
		for _, c := range strippings() {
			for _, goes := range []impl.Symbol{{Where: fixed, Value: 60000}, {Where: 1, Value: 48}, {Bind: strong, Where: none}, {Bind: weak, Where: none}} {
				o := impl.Object{Sections: []impl.Section{filledSection(48), blankSection(48)}, Symbols: fixedSymbols(many)}
				for i := range o.Symbols {
					goes.Name = o.Symbols[i].Name
					o.Symbols[i] = goes
				}
				x, left := c.strip(o), many
				if c.mayGo(goes) {
					left = 0
				}
				if len(x.Symbols) != left || !sameObject(x, impl.Object{Sections: o.Sections, Symbols: o.Symbols[:left]}) {
					t.Errorf("%s makes %v of %v", c.what, x, o)
				}
				// The last one stays, if only the last fixup of the last section uses it.
				for k := range many {
					o.Sections = append(slices.Repeat([]impl.Section{blankSection(48)}, 7), filledSection(48, impl.Fixup{At: 44, Kind: impl.FixupLong, To: k, Add: -1000}))
					x := c.strip(o)
					if left == 0 && (!slices.Equal(x.Symbols, o.Symbols[k:k+1]) || x.Sections[7].Fixups[0] != impl.Fixup{At: 44, Kind: impl.FixupLong, To: 0, Add: -1000}) || left > 0 && !sameObject(x, o) {
						t.Errorf("%s makes %v of %v", c.what, x, o)
					}
				}
			}
		}
	}
}

// TestOneSymbolIsUsedOften has all fixups use one symbol, in one section and in all.
func TestOneSymbolIsUsedOften(t *testing.T) {
	for sections := 1; sections <= 8; sections++ {
		for fixups := range 7 {
			for k := range 12 {
				o := impl.Object{Symbols: kindSymbols(k, 12)}
				for i := range sections {
					s := filledSection(48)
					s.Bytes = bytesFrom(i, 48)
					for at := range fixups {
						s.Fixups = append(s.Fixups, impl.Fixup{At: 8*at + i%4, Kind: 1 + (at+i)%3, To: (k + 5) % 12, Add: 100*at - i})
					}
					o.Sections = append(o.Sections, s)
				}
				checkStripped(t, o)
				// One fixup more or less than that makes no difference.
				last := o.Sections[sections-1].Fixups
				for at := range last {
					last[at].To = (k + at) % 12
					checkStripped(t, o)
				}
			}
		}
	}
}

func TestGreatObjectsAreStripped(t *testing.T) {
	o := greatestObject()
	for many := range 13 {
		for i := range o.Sections {
			for k := range o.Sections[i].Fixups {
				o.Sections[i].Fixups[k].To = (i + k) % max(1, many)
			}
		}
		checkStripped(t, o)
		if x := impl.StripLocals(o); len(x.Sections) != 8 || len(x.Symbols) < 8 {
			t.Errorf("StripLocals makes %v of %v", x, o)
		}
		checkHidden(t, o, o.Symbols[many%12].Name)
	}
}

// TestStrippedOnceIsEnough says that stripping again changes nothing, and that what fixups do is the same.
func TestStrippedOnceIsEnough(t *testing.T) {
	for _, o := range dumpedObjects() {
		for _, c := range strippings() {
			x := c.strip(o)
			if again := c.strip(x); !sameObject(again, x) {
				t.Errorf("%s makes %v of %v, and %v of this", c.what, x, o, again)
			}
			if len(x.Sections) != len(o.Sections) {
				t.Errorf("%s makes %v of %v", c.what, x, o)
				continue
			}
			for i, s := range x.Sections {
				if len(s.Fixups) != len(o.Sections[i].Fixups) {
					t.Errorf("%s makes %v of %v", c.what, x, o)
					continue
				}
				for k, f := range s.Fixups {
					was := o.Sections[i].Fixups[k]
					if x.Symbols[f.To] != o.Symbols[was.To] || f.At != was.At || f.Kind != was.Kind || f.Add != was.Add {
						t.Errorf("%s makes %v of %v", c.what, x, o)
					}
				}
			}
			for k, s := range x.Symbols {
				if c.mayGo(s) && usesOf(x, k) == 0 {
					t.Errorf("%s leaves %v in %v", c.what, s, x)
				}
			}
		}
		if x, y := impl.StripLocals(impl.StripWanted(o)), impl.StripWanted(impl.StripLocals(o)); !sameObject(x, y) {
			t.Errorf("%v is stripped to %v and to %v", o, x, y)
		}
		if x := impl.HideNames(o, nil); !sameObject(impl.HideNames(x, nil), x) || !sameObject(impl.HideNames(x, namesIn(o)), x) {
			t.Errorf("of %v %v is made, of which something else is made", o, x)
		}
	}
}

// TestEachSymbolIsStrippedOrHidden tells for every kind of symbol what becomes of it.
func TestEachSymbolIsStrippedOrHidden(t *testing.T) {
	for _, c := range []struct {
		s              impl.Symbol
		locals, wanted bool
		hidden         int
	}{
		{impl.Symbol{Name: "s", Bind: local, Where: 0}, true, false, local},
		{impl.Symbol{Name: "s", Bind: strong, Where: 0}, false, false, local},
		{impl.Symbol{Name: "s", Bind: weak, Where: 0}, false, false, local},
		{impl.Symbol{Name: "s", Bind: local, Where: 1, Value: 8}, true, false, local},
		{impl.Symbol{Name: "s", Bind: strong, Where: 1, Value: 8}, false, false, local},
		{impl.Symbol{Name: "s", Bind: weak, Where: 1, Value: 8}, false, false, local},
		{impl.Symbol{Name: "s", Bind: strong, Where: none}, false, true, strong},
		{impl.Symbol{Name: "s", Bind: weak, Where: none}, false, true, weak},
		{impl.Symbol{Name: "s", Bind: local, Where: fixed, Value: 60000}, true, false, local},
		{impl.Symbol{Name: "s", Bind: strong, Where: fixed, Value: 60000}, false, false, local},
		{impl.Symbol{Name: "s", Bind: weak, Where: fixed}, false, false, local},
	} {
		for _, used := range []bool{false, true} {
			o := impl.Object{Sections: []impl.Section{filledSection(4), filledSection(8)}, Symbols: []impl.Symbol{c.s}}
			if used {
				o.Sections[1].Fixups = fixupsOf(impl.FixupLong, 3)
			}
			for what, result := range map[string]struct {
				x    impl.Object
				goes bool
			}{"StripLocals": {impl.StripLocals(o), c.locals && !used}, "StripWanted": {impl.StripWanted(o), c.wanted && !used}} {
				want := o
				if result.goes {
					want.Symbols = nil
				}
				if !sameObject(result.x, want) {
					t.Errorf("%s makes %v of %v", what, result.x, o)
				}
			}
			for _, keep := range [][]string{nil, {"other"}, {"t", "ss", "S", "s ", ""}, {"code"}} {
				want := cloneObject(o)
				want.Symbols[0].Bind = c.hidden
				if x := impl.HideNames(o, keep); !sameObject(x, want) {
					t.Errorf("with the names %q %v is made of %v", keep, x, o)
				}
			}
			for _, keep := range [][]string{{"s"}, {"s", "s"}, {"", "other", "s"}, append(manyNames(5000, "x"), "s")} {
				if x := impl.HideNames(o, keep); !sameObject(x, o) {
					t.Errorf("with its name %v is made of %v", x, o)
				}
			}
		}
	}
}

// TestNamesOfOneKindAreHidden tells symbols by their names alone, wherever they stand.
func TestNamesOfOneKindAreHidden(t *testing.T) {
	for many := range 13 {
		for first := range 8 {
			o := usingObject(kindSymbols(first, many), numbersIn(0xfff, many)...)
			for mask := 0; mask < 1<<many; mask += 1 + mask/7 {
				var keep []string
				for _, k := range numbersIn(mask, many) {
					keep = append(keep, o.Symbols[k].Name)
				}
				checkHidden(t, o, keep...)
				slices.Reverse(keep)
				checkHidden(t, o, append(keep, keep...)...)
			}
		}
	}
}

// spoiledObjects are objects that are not valid by one thing, though a symbol of theirs could go.
func spoiledObjects() map[string]impl.Object {
	list := map[string]impl.Object{}
	put := func(what string, spoil func(o *impl.Object)) {
		o := usingObject(kindSymbols(0, 8), 1, 3, 6)
		o.Sections = append(o.Sections, blankSection(7))
		spoil(&o)
		list[what] = o
	}
	for _, to := range []int{-1, -2, 8, 9, 11, 12, 13, 15, 16, 17, 31, 32, 33, 63, 64, 65, 128, math.MinInt32, math.MaxInt32, math.MinInt, math.MaxInt} {
		put(fmt.Sprintf("a fixup of the symbol %d", to), func(o *impl.Object) { o.Sections[0].Fixups[2].To = to })
	}
	for _, where := range []int{2, 3, 8, -3, math.MinInt, math.MaxInt} {
		put(fmt.Sprintf("a symbol in the section %d", where), func(o *impl.Object) { o.Symbols[0].Where, o.Symbols[0].Value = where, 0 })
	}
	for i, many := range []int{13, 14, 15, 16, 17, 31, 32, 33, 63, 64, 65, 100, 1000} {
		put(fmt.Sprintf("%d symbols", many), func(o *impl.Object) { o.Symbols = kindSymbols(i, many) })
		put(fmt.Sprintf("%d local symbols", many), func(o *impl.Object) { o.Symbols = slices.Repeat([]impl.Symbol{{Name: "l", Where: fixed}}, many) })
	}
	for _, many := range []int{9, 10, 16, 64, 100} {
		put(fmt.Sprintf("%d sections", many), func(o *impl.Object) { o.Sections = manySections(many) })
	}
	put("a name twice", func(o *impl.Object) { o.Symbols[6].Name = o.Symbols[2].Name })
	put("a wanted name twice", func(o *impl.Object) { o.Symbols[3].Name = o.Symbols[1].Name })
	put("a name given and wanted", func(o *impl.Object) { o.Symbols[1].Name = o.Symbols[7].Name })
	put("no name of a local symbol", func(o *impl.Object) { o.Symbols[0].Name = "L" })
	put("no name of a section", func(o *impl.Object) { o.Sections[1].Name = "" })
	put("a local symbol elsewhere", func(o *impl.Object) { o.Symbols[1].Bind = local })
	put("a wanted symbol with a value", func(o *impl.Object) { o.Symbols[1].Value = 1 })
	put("a value behind the end", func(o *impl.Object) { o.Symbols[0].Value = 9 })
	put("a negative value", func(o *impl.Object) { o.Symbols[0].Value = -1 })
	put("a fixed value of 60001", func(o *impl.Object) { o.Symbols[4].Value = 60001 })
	put("the binding 3", func(o *impl.Object) { o.Symbols[2].Bind = 3 })
	put("the binding -1", func(o *impl.Object) { o.Symbols[2].Bind = -1 })
	put("the kind 4", func(o *impl.Object) { o.Sections[1].Kind = 4 })
	put("the align 3", func(o *impl.Object) { o.Sections[0].Align = 3 })
	put("49 bytes", func(o *impl.Object) { o.Sections[0].Bytes = make([]byte, 49) })
	put("a size beside bytes", func(o *impl.Object) { o.Sections[0].Size = 8 })
	put("a size of 49", func(o *impl.Object) { o.Sections[1].Size = 49 })
	put("a size of -1", func(o *impl.Object) { o.Sections[1].Size = -1 })
	put("bytes of a blank section", func(o *impl.Object) { o.Sections[1].Bytes = []byte{0} })
	put("a fixup of a blank section", func(o *impl.Object) { o.Sections[1].Fixups = fixupsOf(impl.FixupNear, 0) })
	put("a fixup of an unknown kind", func(o *impl.Object) { o.Sections[0].Fixups[2].Kind = 4 })
	put("a fixup with a far number", func(o *impl.Object) { o.Sections[0].Fixups[2].Add = 1001 })
	put("a fixup behind the end", func(o *impl.Object) { o.Sections[0].Fixups[2].At = 8 })
	put("a fixup at the place of another one", func(o *impl.Object) { o.Sections[0].Fixups[2].At = 1 })
	put("seven fixups", func(o *impl.Object) { o.Sections[0].Fixups = fixupsOf(impl.FixupNear, 0, 1, 2, 3, 4, 5, 6) })
	return list
}

func TestOtherObjectsAreNotStripped(t *testing.T) {
	for what, o := range spoiledObjects() {
		checkNotStripped(t, what, o)
	}
	for _, o := range append(otherObjects(), symbolsOf(make([]impl.Symbol, 1)...), sectionsOf(make([]impl.Section, 1)...)) {
		checkNotStripped(t, "not valid", o)
	}
	for _, n := range farInts {
		for _, f := range []impl.Fixup{{Kind: impl.FixupNear, To: n}, {Kind: n}, {Kind: impl.FixupNear, At: n}, {Kind: impl.FixupNear, Add: n}} {
			checkNotStripped(t, "a far fixup", impl.Object{Sections: []impl.Section{filledSection(4, f)}, Symbols: fixedSymbols(12)})
		}
		for _, s := range []impl.Symbol{{Name: "s", Bind: n}, {Name: "s", Where: n}, {Name: "s", Value: n}, {Name: "s", Bind: strong, Where: none, Value: n}} {
			checkNotStripped(t, "a far symbol", impl.Object{Sections: manySections(2), Symbols: []impl.Symbol{s}})
		}
	}
}

// TestStrippingDoesNotMakeObjectsValid says that an object is looked at as it is given, not as it would be then.
func TestStrippingDoesNotMakeObjectsValid(t *testing.T) {
	twice := symbolsOf(impl.Symbol{Name: "a", Bind: weak, Where: fixed}, impl.Symbol{Name: "a", Bind: strong, Where: fixed})
	checkNotStripped(t, "a name that would be hidden", twice)
	checkNotStripped(t, "a wanted name that would be stripped", symbolsOf(impl.Symbol{Name: "a", Bind: strong, Where: none}, impl.Symbol{Name: "a", Bind: strong, Where: fixed}))
	locals := kindSymbols(0, 13)
	for i := range locals {
		locals[i].Bind, locals[i].Where, locals[i].Value = local, fixed, i
	}
	checkNotStripped(t, "local symbols that would be stripped", symbolsOf(locals...))
}

// roomy returns an object with memory of its own, and with room behind each of its lists.
func roomy(o impl.Object) impl.Object {
	o.Sections = append(slices.Clone(o.Sections), make([]impl.Section, 3)...)[:len(o.Sections)]
	o.Symbols = append(slices.Clone(o.Symbols), make([]impl.Symbol, 3)...)[:len(o.Symbols)]
	for i, s := range o.Sections {
		o.Sections[i].Bytes = append(slices.Clone(s.Bytes), make([]byte, 9)...)[:len(s.Bytes)]
		o.Sections[i].Fixups = append(slices.Clone(s.Fixups), make([]impl.Fixup, 3)...)[:len(s.Fixups)]
	}
	return o
}

// wholeOf returns an object with all that there is room for in its lists.
func wholeOf(o impl.Object) impl.Object {
	o.Sections, o.Symbols = slices.Clone(o.Sections[:cap(o.Sections)]), slices.Clone(o.Symbols[:cap(o.Symbols)])
	for i, s := range o.Sections {
		o.Sections[i].Bytes, o.Sections[i].Fixups = slices.Clone(s.Bytes[:cap(s.Bytes)]), slices.Clone(s.Fixups[:cap(s.Fixups)])
	}
	return o
}

// spoil puts something else into each list of an object, up to its capacity.
func spoil(o impl.Object) {
	for _, s := range o.Sections[:cap(o.Sections)] {
		fillUp(s.Bytes, 77)
		fillUp(s.Fixups, impl.Fixup{At: 77})
	}
	fillUp(o.Sections, impl.Section{Name: "spoiled"})
	fillUp(o.Symbols, impl.Symbol{Name: "spoiled"})
}

// checkOwnMemory says that what is made of a valid object shares no memory with it or with what is made of it again, and that it is left alone.
func checkOwnMemory(t *testing.T, what string, given impl.Object, edit func(impl.Object) impl.Object) {
	t.Helper()
	o := roomy(given)
	was := wholeOf(o)
	first, second, third := edit(o), edit(o), edit(o)
	want := cloneObject(first)
	if !sameObject(second, want) {
		t.Errorf("%s makes %v and %v of %v", what, want, second, given)
	}
	checkApart(t, first)
	spoil(first)
	if !sameObject(second, want) {
		t.Errorf("two results of %s for %v share memory", what, given)
	}
	spoil(third)
	if !reflect.DeepEqual(wholeOf(o), was) {
		t.Errorf("%s changes %v, or a change of its result does", what, given)
	}
	spoil(o)
	if !sameObject(second, want) {
		t.Errorf("the result of %s changes with %v", what, given)
	}
}

func TestStrippedObjectsHaveTheirOwnMemory(t *testing.T) {
	for _, given := range dumpedObjects() {
		checkOwnMemory(t, "StripLocals", given, impl.StripLocals)
		checkOwnMemory(t, "StripWanted", given, impl.StripWanted)
		checkOwnMemory(t, "HideNames without names", given, func(o impl.Object) impl.Object { return impl.HideNames(o, nil) })
		checkOwnMemory(t, "HideNames with all names", given, func(o impl.Object) impl.Object { return impl.HideNames(o, namesIn(given)) })
	}
}

func TestListsOfNamesAreLeftAlone(t *testing.T) {
	for _, o := range append(someObjects(), otherObjects()...) {
		keep := append(slices.Concat(namesIn(o), []string{"", "other"}), "room", "more room")[:len(namesIn(o))]
		was := slices.Clone(keep[:cap(keep)])
		x := impl.HideNames(o, keep)
		want := cloneObject(x)
		if !slices.Equal(keep[:cap(keep)], was) {
			t.Errorf("%q was changed to %q", was, keep[:cap(keep)])
		}
		fillUp(keep, "spoiled")
		if !sameObject(x, want) {
			t.Errorf("%v changes with the names to %v", want, x)
		}
	}
}

// TestNamesBehindTheLengthAreNotKept says that a list ends with its length.
func TestNamesBehindTheLengthAreNotKept(t *testing.T) {
	keep := []string{"f0", "f1", "f2"}
	for many := range 4 {
		given := impl.NamesGiven(impl.HideNames(symbolsOf(fixedSymbols(5)...), keep[:many]))
		if !slices.Equal(given, keep[:many]) {
			t.Errorf("with the names %q %q are given", keep[:many], given)
		}
	}
}

// TestTheOrderOfNamesDoesNotMatter turns a list of names round and round.
func TestTheOrderOfNamesDoesNotMatter(t *testing.T) {
	o := fullObject()
	keep := append(impl.NamesGiven(o), "other", "c", "no name")
	for many := range len(keep) + 1 {
		list := slices.Clone(keep[:many])
		want := impl.HideNames(o, list)
		for range list {
			list = slices.Concat(list[1:], list[:1])
			turned := slices.Clone(list)
			slices.Reverse(turned)
			if !sameObject(impl.HideNames(o, list), want) || !sameObject(impl.HideNames(o, turned), want) {
				t.Errorf("the order of %q matters", list)
			}
		}
	}
}
