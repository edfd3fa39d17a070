package tests

import (
	"math"
	"reflect"
	"slices"
	"strconv"
	"strings"
	"testing"

	"loop.example/objectlinker/impl"
)

// The places of symbols that are in no section, and bindings, by short names.
const (
	none   = impl.SymbolNone
	fixed  = impl.SymbolFixed
	local  = impl.BindLocal
	strong = impl.BindStrong
	weak   = impl.BindWeak
)

// symbolsOf returns an object without sections and with these symbols.
func symbolsOf(symbols ...impl.Symbol) impl.Object {
	return impl.Object{Symbols: symbols}
}

// fixedSymbols returns strong symbols with different names and fixed values.
func fixedSymbols(many int) []impl.Symbol {
	var list []impl.Symbol
	for i, name := range manyNames(many, "f") {
		list = append(list, impl.Symbol{Name: name, Bind: strong, Where: fixed, Value: i})
	}
	return list
}

// manySections returns sections without fixups, one with bytes behind one without.
func manySections(many int) []impl.Section {
	var list []impl.Section
	for i := range many {
		if i%2 == 0 {
			list = append(list, blankSection(i))
		} else {
			list = append(list, filledSection(i))
		}
	}
	return list
}

// oneObject is an object that wants one name and gives another one.
func oneObject() impl.Object {
	return impl.Object{
		Sections: []impl.Section{{Name: "code", Kind: impl.SectionCode, Align: 4, Bytes: make([]byte, 6), Fixups: []impl.Fixup{{At: 1, Kind: impl.FixupLong, To: 1, Add: 4}}}},
		Symbols:  []impl.Symbol{{Name: "main", Bind: strong}, {Name: "puts", Bind: strong, Where: none}},
	}
}

// fullObject is an object with as many sections and symbols as there may be, some with the same names.
func fullObject() impl.Object {
	o := impl.Object{Sections: manySections(8)}
	for i, name := range []string{"z", "b", "b", "y", "b", "a.1", "x", "w", "_w", "b", "z", "c"} {
		s := impl.Symbol{Name: name, Bind: []int{weak, local, local, strong}[i%4], Where: i % 8, Value: i % 8}
		switch i {
		case 3, 11:
			s.Where, s.Value = none, 0
		case 7, 9:
			s.Where, s.Value = fixed, 60000
		}
		o.Symbols = append(o.Symbols, s)
	}
	return o
}

// someObjects are valid objects.
func someObjects() []impl.Object {
	list := []impl.Object{
		{},
		{Sections: []impl.Section{}, Symbols: []impl.Symbol{}},
		{Sections: manySections(8)},
		symbolsOf(fixedSymbols(1)...),
		symbolsOf(fixedSymbols(12)...),
		symbolsOf(impl.Symbol{Name: "a", Bind: strong, Where: none}),
		symbolsOf(impl.Symbol{Name: "a", Bind: weak, Where: none}),
		symbolsOf(impl.Symbol{Name: "a", Where: fixed, Value: 60000}),
		symbolsOf(impl.Symbol{Name: "c", Bind: weak, Where: none}, impl.Symbol{Name: "a", Bind: strong, Where: none}, impl.Symbol{Name: "b", Bind: weak, Where: none}),
		symbolsOf(impl.Symbol{Name: "b", Bind: strong, Where: none}, impl.Symbol{Name: "b", Where: fixed}, impl.Symbol{Name: "a", Bind: weak, Where: fixed}, impl.Symbol{Name: "a", Where: fixed}),
		oneObject(),
		fullObject(),
		{
			Sections: []impl.Section{
				{Name: "lib", Kind: impl.SectionCode, Align: 2, Bytes: []byte{0xaa, 0xbb, 0xcc}},
				{Name: "buf", Kind: impl.SectionBlank, Align: 8, Size: 5},
			},
			Symbols: []impl.Symbol{{Name: "puts", Bind: strong, Where: 0, Value: 1}, {Name: "buf", Where: 1, Value: 2}},
		},
	}
	for _, s := range someSections() {
		list = append(list, impl.Object{Sections: []impl.Section{s, s}, Symbols: []impl.Symbol{
			{Name: "z.end", Bind: weak, Where: 1, Value: impl.SectionSize(s)},
			{Name: "ext", Bind: strong, Where: none},
			{Name: "z.end", Where: 0},
		}})
	}
	return list
}

// wrongObjects are objects that are not valid, but whose symbols are wanted and given, if one does not look.
func wrongObjects() []impl.Object {
	give, want := impl.Symbol{Name: "give", Bind: strong, Where: fixed}, impl.Symbol{Name: "want", Bind: strong, Where: none}
	list := []impl.Object{
		{Sections: manySections(9), Symbols: []impl.Symbol{give, want}},
		symbolsOf(append(fixedSymbols(12), want)...),
		symbolsOf(give, want, give),
		symbolsOf(give, want, want),
		symbolsOf(give, want, impl.Symbol{Name: "want", Bind: weak, Where: fixed}),
		symbolsOf(give, want, impl.Symbol{Name: "give", Bind: weak, Where: none}),
		symbolsOf(give, want, impl.Symbol{Name: "x", Where: none}),
		symbolsOf(give, want, impl.Symbol{Name: "x", Bind: weak, Where: none, Value: 1}),
		symbolsOf(give, want, impl.Symbol{Name: "x", Bind: weak, Where: fixed, Value: 60001}),
		symbolsOf(give, want, impl.Symbol{Name: "x", Bind: weak, Where: 0}),
		symbolsOf(give, want, impl.Symbol{Name: "x", Bind: 3, Where: fixed}),
		symbolsOf(give, want, impl.Symbol{Name: "X", Bind: weak, Where: fixed}),
		symbolsOf(give, want, impl.Symbol{}),
		{Sections: []impl.Section{{}}, Symbols: []impl.Symbol{give, want}},
		{Sections: []impl.Section{blankSection(49)}, Symbols: []impl.Symbol{give, want}},
		{Sections: []impl.Section{filledSection(4, impl.Fixup{Kind: impl.FixupLong, To: 2})}, Symbols: []impl.Symbol{give, want}},
		{Sections: []impl.Section{filledSection(4), filledSection(4, impl.Fixup{Kind: impl.FixupLong, To: -1})}, Symbols: []impl.Symbol{give, want}},
	}
	return list
}

// cloneObject returns an object with memory of its own.
func cloneObject(o impl.Object) impl.Object {
	o.Sections, o.Symbols = slices.Clone(o.Sections), slices.Clone(o.Symbols)
	for i := range o.Sections {
		o.Sections[i] = cloneSection(o.Sections[i])
	}
	return o
}

// namesTwice reports, pair by pair, whether two symbols that are not BindLocal have the same name.
func namesTwice(symbols []impl.Symbol) bool {
	for i, a := range symbols {
		for _, b := range symbols[:i] {
			if a.Bind != local && b.Bind != local && a.Name == b.Name {
				return true
			}
		}
	}
	return false
}

// namesWhere returns the names of those symbols that are taken, sorted.
func namesWhere(o impl.Object, taken func(impl.Symbol) bool) []string {
	var names []string
	for _, s := range o.Symbols {
		if taken(s) {
			names = append(names, s.Name)
		}
	}
	slices.Sort(names)
	return names
}

// ascend reports whether each name is greater than the one before.
func ascend(names []string) bool {
	for i := 1; i < len(names); i++ {
		if names[i] <= names[i-1] {
			return false
		}
	}
	return true
}

func TestTheLimitsOfObjects(t *testing.T) {
	if impl.BindLocal != 0 || impl.BindStrong != 1 || impl.BindWeak != 2 || impl.SymbolNone != -1 || impl.SymbolFixed != -2 {
		t.Error("the bindings or the places have other numbers")
	}
	if impl.MaxSections != 8 || impl.MaxSymbols != 12 || impl.MaxValue != 60000 {
		t.Error("the limits are others")
	}
}

// Promise 37: symbols are somewhere.
func TestPromise37(t *testing.T) {
	for _, o := range someObjects() {
		for i, s := range o.Symbols {
			if !impl.SymbolValid(s, o.Sections) {
				t.Errorf("%v is not valid", s)
			}
			for _, behind := range []int{len(o.Sections), len(o.Sections) + 1, 8, 12, 255, 256} {
				for _, value := range []int{0, 1, s.Value} {
					other := impl.Symbol{Name: s.Name, Bind: s.Bind, Where: behind, Value: value}
					if behind >= len(o.Sections) && impl.SymbolValid(other, o.Sections) {
						t.Errorf("with %d sections %v is valid", len(o.Sections), other)
					}
					changed := cloneObject(o)
					changed.Symbols[i] = other
					if behind >= len(o.Sections) && impl.ObjectValid(changed) {
						t.Errorf("with %d sections an object with %v is valid", len(o.Sections), other)
					}
				}
			}
		}
	}
}

func TestSymbolsAreInSections(t *testing.T) {
	for many := range 9 {
		sections := manySections(many)
		for bind := local; bind <= weak; bind++ {
			for _, where := range append([]int{-10, -4, -3, 0, 1, 2, 3, 4, 5, 6, 7, 8, 9, 12, 255, 256}, farInts...) {
				want := where >= 0 && where < many
				s := impl.Symbol{Name: "s", Bind: bind, Where: where}
				if x := impl.SymbolValid(s, sections); x != want {
					t.Errorf("with %d sections %v is valid: %v", many, s, x)
				}
				if x := impl.ObjectValid(impl.Object{Sections: sections, Symbols: []impl.Symbol{s}}); x != want {
					t.Errorf("an object with %d sections and %v is valid: %v", many, s, x)
				}
			}
		}
	}
	// A section that stands behind the length is not of the object, though it is there.
	if impl.SymbolValid(impl.Symbol{Name: "s", Where: 3}, manySections(4)[:3]) {
		t.Error("a symbol in a section behind the length is valid")
	}
}

func TestSymbolsArePlacesUpToTheEnd(t *testing.T) {
	for bind := local; bind <= weak; bind++ {
		for _, size := range []int{0, 1, 2, 5, 47, 48} {
			sections := []impl.Section{filledSection(48), filledSection(size), blankSection(size), filledSection(48)}
			values := append([]int{-60000, -49, -48, -2, -1, 0, 1, 2, 3, 4, 5, 6, 46, 47, 48, 49, 50, 255, 256, 59999, 60000, 60001}, farInts...)
			for _, value := range values {
				want := value >= 0 && value <= size
				for where := 1; where <= 2; where++ {
					s := impl.Symbol{Name: "s", Bind: bind, Where: where, Value: value}
					if x := impl.SymbolValid(s, sections); x != want {
						t.Errorf("in a section of %d bytes %v is valid: %v", size, s, x)
					}
					o := impl.Object{Sections: sections, Symbols: []impl.Symbol{s}}
					if x := impl.ObjectValid(o); x != want {
						t.Errorf("in a section of %d bytes an object with %v is valid: %v", size, s, x)
					}
				}
			}
		}
	}
}

func TestSymbolsElsewhereHaveNoValue(t *testing.T) {
	for _, sections := range [][]impl.Section{nil, manySections(1), manySections(8)} {
		for _, value := range append([]int{-60000, -2, -1, 0, 1, 2, 5, 48, 255, 256, 59999, 60000, 60001}, farInts...) {
			for bind := local; bind <= weak; bind++ {
				s := impl.Symbol{Name: "s", Bind: bind, Where: none, Value: value}
				want := bind != local && value == 0
				if x := impl.SymbolValid(s, sections); x != want {
					t.Errorf("%v is valid: %v", s, x)
				}
				if x := impl.ObjectValid(impl.Object{Sections: sections, Symbols: []impl.Symbol{s}}); x != want {
					t.Errorf("an object with %v is valid: %v", s, x)
				}
			}
		}
	}
}

func TestFixedSymbolsHaveAValue(t *testing.T) {
	for _, sections := range [][]impl.Section{nil, manySections(1), manySections(8)} {
		for _, value := range append([]int{-60001, -60000, -2, -1, 0, 1, 2, 255, 256, 32768, 59999, 60000, 60001, 60002, 65535, 65536}, farInts...) {
			for bind := local; bind <= weak; bind++ {
				s := impl.Symbol{Name: "s", Bind: bind, Where: fixed, Value: value}
				want := value >= 0 && value <= 60000
				if x := impl.SymbolValid(s, sections); x != want {
					t.Errorf("%v is valid: %v", s, x)
				}
				if x := impl.ObjectValid(impl.Object{Sections: sections, Symbols: []impl.Symbol{s}}); x != want {
					t.Errorf("an object with %v is valid: %v", s, x)
				}
			}
		}
	}
}

func TestSymbolsAreBound(t *testing.T) {
	sections := []impl.Section{filledSection(4)}
	for _, bind := range append([]int{-3, -2, -1, 0, 1, 2, 3, 4, 255, 256, 257, 258}, farInts...) {
		for _, where := range []int{fixed, none, 0} {
			s := impl.Symbol{Name: "s", Bind: bind, Where: where}
			want := bind >= 0 && bind <= 2 && (where != none || bind != 0)
			if x := impl.SymbolValid(s, sections); x != want {
				t.Errorf("%v is valid: %v", s, x)
			}
			if x := impl.ObjectValid(impl.Object{Sections: sections, Symbols: []impl.Symbol{s}}); x != want {
				t.Errorf("an object with %v is valid: %v", s, x)
			}
		}
	}
}

func TestSymbolsHaveNames(t *testing.T) {
	sections := []impl.Section{filledSection(4)}
	for _, s := range []impl.Symbol{{Bind: strong, Where: none}, {Bind: local, Where: fixed, Value: 9}, {Bind: weak, Where: 0, Value: 4}, {}} {
		for _, name := range wrongNames() {
			s.Name = name
			if impl.SymbolValid(s, sections) || impl.ObjectValid(impl.Object{Sections: sections, Symbols: []impl.Symbol{s}}) {
				t.Errorf("with the name %q a symbol is valid", name)
			}
		}
		for _, name := range []string{"a", "abcdefgh", ".text", "_", "x.1"} {
			s.Name = name
			if !impl.SymbolValid(s, sections) || !impl.ObjectValid(impl.Object{Sections: sections, Symbols: []impl.Symbol{s}}) {
				t.Errorf("with the name %q a symbol is not valid", name)
			}
		}
	}
}

// TestSymbolsLookAtSizesAlone says that the sections beside a symbol need not be valid.
func TestSymbolsLookAtSizesAlone(t *testing.T) {
	sections := []impl.Section{{Bytes: make([]byte, 60)}, {Kind: impl.SectionBlank, Size: 70}, {Kind: impl.SectionBlank, Size: -1}, {Kind: 4, Bytes: make([]byte, 2), Size: 9}}
	for where, size := range []int{60, 70, -1, 2} {
		for value := -2; value <= 72; value++ {
			s := impl.Symbol{Name: "s", Bind: strong, Where: where, Value: value}
			if x := impl.SymbolValid(s, sections); x != (value >= 0 && value <= size) {
				t.Errorf("%v is valid: %v", s, x)
			}
		}
	}
	if !impl.SymbolValid(impl.Symbol{Name: "s", Where: 20}, manySections(30)) {
		t.Error("a symbol in one of many sections is not valid")
	}
}

// Promise 38: objects have different names.
func TestPromise38(t *testing.T) {
	for _, o := range someObjects() {
		if !impl.ObjectValid(o) {
			t.Errorf("%v is not valid", o)
		}
		if len(o.Symbols) == 12 {
			continue
		}
		for _, s := range o.Symbols {
			for at := range len(o.Symbols) + 1 {
				twice := cloneObject(o)
				twice.Symbols = slices.Insert(twice.Symbols, at, s)
				// A fixup has its symbol still, for there is one more.
				if x := impl.ObjectValid(twice); x != (s.Bind == local) {
					t.Errorf("with %v twice %v is valid: %v", s, o, x)
				}
			}
		}
	}
}

// TestNamesComeTwice looks at all lists of up to four symbols out of some with two names.
func TestNamesComeTwice(t *testing.T) {
	var one []impl.Symbol
	for _, name := range []string{"a", "b"} {
		one = append(one, impl.Symbol{Name: name, Where: fixed}, impl.Symbol{Name: name, Bind: strong, Where: none}, impl.Symbol{Name: name, Bind: strong, Where: fixed}, impl.Symbol{Name: name, Bind: weak, Where: 0, Value: 1}, impl.Symbol{Name: name, Where: 0})
	}
	lists := [][]impl.Symbol{nil}
	for from := 0; len(lists[from]) < 4; from++ {
		for _, s := range one {
			lists = append(lists, append(slices.Clone(lists[from]), s))
		}
	}
	for _, list := range lists {
		o := impl.Object{Sections: []impl.Section{filledSection(1)}, Symbols: list}
		want := !namesTwice(list)
		if x := impl.ObjectValid(o); x != want {
			t.Errorf("an object with %v is valid: %v", list, x)
		}
		wanted, given := impl.NamesWanted(o), impl.NamesGiven(o)
		if !want && (len(wanted) != 0 || len(given) != 0) {
			t.Errorf("an object with %v wants %q and gives %q", list, wanted, given)
		}
		if want && (!slices.Equal(wanted, namesWhere(o, isWanted)) || !slices.Equal(given, namesWhere(o, isGiven))) {
			t.Errorf("an object with %v wants %q and gives %q", list, wanted, given)
		}
	}
}

// isWanted reports whether a symbol is one that another object is to give.
func isWanted(s impl.Symbol) bool { return s.Where == none }

// isGiven reports whether a symbol is one that is there for other objects.
func isGiven(s impl.Symbol) bool { return s.Where != none && s.Bind != local }

func TestNamesFarApartMayNotBeTheSame(t *testing.T) {
	for _, s := range []impl.Symbol{{Bind: strong, Where: none}, {Bind: weak, Where: none}, {Bind: strong, Where: fixed}, {Bind: weak, Where: fixed, Value: 7}, {Where: fixed, Value: 60000}} {
		for i := range 12 {
			for k := range 12 {
				o := symbolsOf(fixedSymbols(12)...)
				s.Name = o.Symbols[i].Name
				o.Symbols[k] = s
				want := i == k || s.Bind == local
				if x := impl.ObjectValid(o); x != want {
					t.Errorf("with the name of symbol %d at symbol %d, bound %d, an object is valid: %v", i, k, s.Bind, x)
				}
			}
		}
	}
	// The names of sections are no names of symbols, and may be the same.
	o := impl.Object{Sections: []impl.Section{filledSection(1), filledSection(1)}, Symbols: []impl.Symbol{{Name: "code", Bind: strong}}}
	if !impl.ObjectValid(o) {
		t.Error("a symbol may not have the name of a section")
	}
}

func TestObjectsHaveSomeSectionsAndSymbols(t *testing.T) {
	for many := range 30 {
		for few := range 15 {
			o := impl.Object{Sections: manySections(many), Symbols: fixedSymbols(few)}
			if x := impl.ObjectValid(o); x != (many <= 8 && few <= 12) {
				t.Errorf("an object with %d sections and %d symbols is valid: %v", many, few, x)
			}
		}
	}
	for many := range 300 {
		var list []impl.Symbol
		for range many {
			list = append(list, impl.Symbol{Name: "same", Where: fixed})
		}
		if x := impl.ObjectValid(symbolsOf(list...)); x != (many <= 12) {
			t.Errorf("an object with %d symbols that are BindLocal is valid: %v", many, x)
		}
	}
}

func TestObjectsHaveValidSections(t *testing.T) {
	for _, wrong := range []impl.Section{{}, blankSection(-1), blankSection(49), filledSection(49), filledSection(1, fixupsOf(impl.FixupShort, 0)...), {Name: "s", Kind: 4, Align: 1}, {Name: "S", Kind: 1, Align: 1}, {Name: "s", Kind: 1, Align: 3}, {Name: "s", Kind: 1, Align: 1, Size: 1}} {
		for at := range 8 {
			o := impl.Object{Sections: manySections(8), Symbols: fixedSymbols(2)}
			o.Sections[at] = wrong
			if impl.ObjectValid(o) {
				t.Errorf("with the section %v an object is valid", wrong)
			}
		}
	}
	for many := range 13 {
		for _, to := range append([]int{-1, 0, 1, 2, 10, 11, 12, 13}, farInts...) {
			for at := range 3 {
				o := impl.Object{Sections: manySections(3), Symbols: fixedSymbols(many)}
				o.Sections[at] = filledSection(9, impl.Fixup{At: 2, Kind: impl.FixupLong, To: to})
				if x := impl.ObjectValid(o); x != (to >= 0 && to < many) {
					t.Errorf("with %d symbols and a fixup of symbol %d an object is valid: %v", many, to, x)
				}
			}
		}
	}
}

func TestObjectsHaveValidSymbols(t *testing.T) {
	for _, wrong := range []impl.Symbol{{}, {Name: "s", Bind: 3}, {Name: "s", Bind: -1}, {Name: "s", Where: none}, {Name: "s", Bind: strong, Where: none, Value: 1}, {Name: "s", Where: fixed, Value: -1}, {Name: "s", Where: 2}, {Name: "s", Where: -3}, {Name: "s", Where: 1, Value: 2}, {Name: "9", Bind: weak, Where: fixed}} {
		for at := range 12 {
			o := impl.Object{Sections: manySections(2), Symbols: fixedSymbols(12)}
			o.Symbols[at] = wrong
			if impl.ObjectValid(o) {
				t.Errorf("with the symbol %v an object is valid", wrong)
			}
		}
	}
}

func TestThereIsNothingInAnEmptyObject(t *testing.T) {
	for _, o := range []impl.Object{{}, {Sections: []impl.Section{}, Symbols: []impl.Symbol{}}, {Sections: manySections(8)}} {
		if !impl.ObjectValid(o) || len(impl.NamesWanted(o)) != 0 || len(impl.NamesGiven(o)) != 0 {
			t.Errorf("%v is not valid, or has names", o)
		}
	}
	if impl.SymbolValid(impl.Symbol{}, nil) || impl.SymbolValid(impl.Symbol{}, manySections(1)) {
		t.Error("nothing is a valid symbol")
	}
}

// Promise 39: wanted names are not there.
func TestPromise39(t *testing.T) {
	for _, o := range someObjects() {
		wanted, given := impl.NamesWanted(o), impl.NamesGiven(o)
		if !ascend(wanted) {
			t.Errorf("the names %q do not ascend", wanted)
		}
		for _, name := range wanted {
			if !slices.ContainsFunc(o.Symbols, func(s impl.Symbol) bool { return s.Name == name && s.Where == none }) {
				t.Errorf("%v wants %q", o, name)
			}
			if slices.Contains(given, name) {
				t.Errorf("%v wants and gives %q", o, name)
			}
		}
		if want := namesWhere(o, isWanted); !slices.Equal(wanted, want) {
			t.Errorf("%v wants %q, not %q", o, wanted, want)
		}
	}
}

func TestGivenNamesAreThere(t *testing.T) {
	for _, o := range someObjects() {
		given := impl.NamesGiven(o)
		if !ascend(given) {
			t.Errorf("the names %q do not ascend", given)
		}
		if want := namesWhere(o, isGiven); !slices.Equal(given, want) {
			t.Errorf("%v gives %q, not %q", o, given, want)
		}
	}
}

func TestNamesOfObjects(t *testing.T) {
	for _, c := range []struct {
		what          string
		o             impl.Object
		wanted, given []string
	}{
		{"one object", oneObject(), []string{"puts"}, []string{"main"}},
		{"a full object", fullObject(), []string{"c", "y"}, []string{"_w", "b", "w", "z"}},
		{"a local symbol", symbolsOf(impl.Symbol{Name: "a", Where: fixed}), nil, nil},
		{"a local and a strong symbol", symbolsOf(impl.Symbol{Name: "a", Where: fixed}, impl.Symbol{Name: "a", Bind: strong, Where: fixed}), nil, []string{"a"}},
		{"a weak and a local symbol", symbolsOf(impl.Symbol{Name: "a", Bind: weak, Where: fixed}, impl.Symbol{Name: "a", Where: fixed}), nil, []string{"a"}},
		{"a wanted and a local symbol", symbolsOf(impl.Symbol{Name: "a", Bind: weak, Where: none}, impl.Symbol{Name: "a", Where: fixed}), []string{"a"}, nil},
		{"a local and a wanted symbol", symbolsOf(impl.Symbol{Name: "a", Where: fixed}, impl.Symbol{Name: "a", Bind: strong, Where: none}), []string{"a"}, nil},
		{"prefixes", symbolsOf(impl.Symbol{Name: "ab", Bind: weak, Where: none}, impl.Symbol{Name: "a", Bind: strong, Where: none}, impl.Symbol{Name: "a.", Bind: strong, Where: none}, impl.Symbol{Name: "a_", Bind: strong, Where: none}, impl.Symbol{Name: "a9", Bind: strong, Where: none}), []string{"a", "a.", "a9", "a_", "ab"}, nil},
		{"given prefixes", symbolsOf(impl.Symbol{Name: "x10", Bind: weak, Where: fixed}, impl.Symbol{Name: "x2", Bind: strong, Where: fixed}, impl.Symbol{Name: "x1", Bind: strong, Where: fixed}), nil, []string{"x1", "x10", "x2"}},
	} {
		if !impl.ObjectValid(c.o) {
			t.Errorf("%s is not valid", c.what)
		}
		if x := impl.NamesWanted(c.o); !slices.Equal(x, c.wanted) {
			t.Errorf("%s wants %q", c.what, x)
		}
		if x := impl.NamesGiven(c.o); !slices.Equal(x, c.given) {
			t.Errorf("%s gives %q", c.what, x)
		}
	}
}

// TestNamesComeInOneOrder turns the symbols of an object round and round.
func TestNamesComeInOneOrder(t *testing.T) {
	var list []impl.Symbol
	for i := range 12 {
		s := impl.Symbol{Name: "n" + strconv.Itoa(i), Bind: strong + i%2, Where: fixed, Value: i}
		if i%3 == 0 {
			s.Where, s.Value = none, 0
		}
		list = append(list, s)
	}
	for range 12 {
		list = slices.Concat(list[5:], list[:5])
		turned := slices.Clone(list)
		slices.Reverse(turned)
		for _, symbols := range [][]impl.Symbol{list, turned} {
			for range 5 {
				if x := impl.NamesWanted(symbolsOf(symbols...)); !slices.Equal(x, []string{"n0", "n3", "n6", "n9"}) {
					t.Errorf("%v wants %q", symbols, x)
				}
				if x := impl.NamesGiven(symbolsOf(symbols...)); !slices.Equal(x, []string{"n1", "n10", "n11", "n2", "n4", "n5", "n7", "n8"}) {
					t.Errorf("%v gives %q", symbols, x)
				}
			}
		}
	}
}

func TestOtherObjectsHaveNoNames(t *testing.T) {
	for _, o := range wrongObjects() {
		if impl.ObjectValid(o) {
			t.Errorf("%v is valid", o)
		}
		if x := impl.NamesWanted(o); x != nil {
			t.Errorf("%v wants %q", o, x)
		}
		if x := impl.NamesGiven(o); x != nil {
			t.Errorf("%v gives %q", o, x)
		}
	}
}

func TestFarIntsAreNoObjects(t *testing.T) {
	for _, n := range append([]int{math.MinInt32, math.MaxInt32, math.MaxUint32}, farInts...) {
		for _, s := range []impl.Symbol{{Name: "s", Bind: n}, {Name: "s", Where: n}, {Name: "s", Value: n}, {Name: "s", Bind: n, Where: n, Value: n}, {Name: "s", Bind: strong, Where: none, Value: n}} {
			o := impl.Object{Sections: manySections(8), Symbols: []impl.Symbol{s}}
			if impl.SymbolValid(s, o.Sections) || impl.ObjectValid(o) || impl.NamesWanted(o) != nil || impl.NamesGiven(o) != nil {
				t.Errorf("%v is valid, or has names", s)
			}
		}
	}
}

func TestObjectsAreLeftAlone(t *testing.T) {
	for _, o := range append(someObjects(), wrongObjects()...) {
		before := cloneObject(o)
		impl.ObjectValid(o)
		for _, s := range o.Symbols {
			impl.SymbolValid(s, o.Sections)
		}
		for _, names := range [][]string{impl.NamesWanted(o), impl.NamesGiven(o)} {
			for i := range names {
				names[i] = strings.Repeat("x", 3)
			}
		}
		if !reflect.DeepEqual(o, before) {
			t.Errorf("%v was changed to %v", before, o)
		}
		first, second := impl.NamesGiven(o), impl.NamesGiven(o)
		if len(first) > 0 {
			first[0] = "changed"
			if second[0] == "changed" {
				t.Error("two results share memory")
			}
		}
	}
}
