package tests

import (
	"fmt"
	"reflect"
	"slices"
	"strings"
	"testing"

	"loop.example/objectlinker/impl"
)

// foundOf finds a name in valid objects as the document tells it: symbol by symbol, first among the strong ones and then among the weak ones.
func foundOf(list []impl.Object, name string) (impl.Given, bool) {
	for _, bind := range []int{strong, weak} {
		for in, o := range list {
			for at, s := range o.Symbols {
				if s.Name == name && s.Bind == bind && s.Where != none {
					return impl.Given{In: in, At: at}, true
				}
			}
		}
	}
	return impl.Given{}, false
}

// symbolsIn returns those symbols of objects that are taken.
func symbolsIn(list []impl.Object, taken func(impl.Symbol) bool) []impl.Symbol {
	var symbols []impl.Symbol
	for _, o := range list {
		for _, s := range o.Symbols {
			if taken(s) {
				symbols = append(symbols, s)
			}
		}
	}
	return symbols
}

// givesStrong reports whether a symbol is strong and gives its name.
func givesStrong(s impl.Symbol) bool { return s.Bind == strong && s.Where != none }

// wantsStrong reports whether a symbol is strong and wants its name.
func wantsStrong(s impl.Symbol) bool { return s.Bind == strong && s.Where == none }

// twiceOf returns the names that are given twice, pair by pair of symbols.
func twiceOf(list []impl.Object) []string {
	var names []string
	symbols := symbolsIn(list, givesStrong)
	for i, a := range symbols {
		for _, b := range symbols[:i] {
			if a.Name == b.Name {
				names = append(names, a.Name)
			}
		}
	}
	slices.Sort(names)
	return slices.Compact(names)
}

// missingOf returns the names that are missing.
func missingOf(list []impl.Object) []string {
	var names []string
	for _, s := range symbolsIn(list, wantsStrong) {
		if _, ok := foundOf(list, s.Name); !ok {
			names = append(names, s.Name)
		}
	}
	slices.Sort(names)
	return slices.Compact(names)
}

// namesOfAll returns the names of the sections and symbols of all objects, each once.
func namesOfAll(list []impl.Object) []string {
	var names []string
	for _, o := range list {
		names = append(names, namesIn(o)...)
	}
	slices.Sort(names)
	return slices.Compact(names)
}

// checkResolved holds what the four functions say of valid objects against what they should.
func checkResolved(t *testing.T, list []impl.Object, names ...string) {
	t.Helper()
	if !impl.ObjectsValid(list) {
		t.Errorf("%v are not valid", list)
	}
	for _, name := range names {
		want, ok := foundOf(list, name)
		if g, good := impl.FindName(list, name); g != want || good != ok {
			t.Errorf("in %v %q is found at %v, %v, not at %v, %v", list, name, g, good, want, ok)
		}
	}
	if x, want := impl.NamesTwice(list), twiceOf(list); !slices.Equal(x, want) {
		t.Errorf("in %v %q are given twice, not %q", list, x, want)
	}
	if x, want := impl.NamesMissing(list), missingOf(list); !slices.Equal(x, want) {
		t.Errorf("in %v %q are missing, not %q", list, x, want)
	}
}

// checkNotResolved says that objects are not valid, and that each function returns its one result for them.
func checkNotResolved(t *testing.T, what string, list ...impl.Object) {
	t.Helper()
	was := cloneObjects(list)
	if impl.ObjectsValid(list) {
		t.Errorf("%s: %v are valid", what, list)
	}
	for _, name := range append(namesOfAll(list), "give", "want", "other", "") {
		if g, ok := impl.FindName(list, name); ok || g != (impl.Given{}) {
			t.Errorf("%s: in %v %q is found at %v, %v", what, list, name, g, ok)
		}
	}
	if x := impl.NamesTwice(list); x != nil {
		t.Errorf("%s: in %v %q are given twice", what, list, x)
	}
	if x := impl.NamesMissing(list); x != nil {
		t.Errorf("%s: in %v %q are missing", what, list, x)
	}
	checkSame(t, what, list, was)
}

// cloneObjects returns objects with memory of their own.
func cloneObjects(list []impl.Object) []impl.Object {
	var x []impl.Object
	for _, o := range list {
		x = append(x, cloneObject(o))
	}
	return x
}

// checkSame says that objects are what they were.
func checkSame(t *testing.T, what string, list, was []impl.Object) {
	t.Helper()
	for i, o := range list {
		if !sameObject(o, was[i]) {
			t.Errorf("%s: %v was changed to %v", what, was[i], o)
		}
	}
}

// checkFound says where a name is found in valid objects.
func checkFound(t *testing.T, list []impl.Object, name string, in, at int) {
	t.Helper()
	if g, ok := impl.FindName(list, name); !ok || g != (impl.Given{In: in, At: at}) {
		t.Errorf("in %v %q is found at %v, %v, not in object %d at %d", list, name, g, ok, in, at)
	}
}

// checkNotFound says that a name is not found in valid objects.
func checkNotFound(t *testing.T, list []impl.Object, name string) {
	t.Helper()
	if g, ok := impl.FindName(list, name); ok || g != (impl.Given{}) || !impl.ObjectsValid(list) {
		t.Errorf("in %v %q is found at %v, %v", list, name, g, ok)
	}
}

// nameWays are ways in which an object may have a name, or may not.
func nameWays(name string) []impl.Object {
	l, f := impl.Symbol{Name: name, Where: fixed, Value: 5}, impl.Symbol{Name: name, Where: 0, Value: 1}
	ways := []impl.Object{{}, symbolsOf(l, l)}
	for _, s := range []impl.Symbol{{Bind: strong, Where: none}, {Bind: weak, Where: none}, {Bind: strong, Where: fixed, Value: 60000}, {Bind: weak, Where: fixed}, {Bind: strong, Where: 0}, {Bind: weak, Where: 0, Value: 1}} {
		s.Name = name
		ways = append(ways, symbolsOf(s), symbolsOf(l, s), symbolsOf(impl.Symbol{Name: "other", Bind: weak, Where: none}, s, l))
	}
	ways = append(ways, symbolsOf(l, f))
	for i := range ways {
		ways[i].Sections = []impl.Section{filledSection(1)}
	}
	return ways
}

// someLists are lists of valid objects, as many as there may be.
func someLists() [][]impl.Object {
	lists := [][]impl.Object{nil, {}, {{}}, {{}, {}, {}, {}}, slices.Repeat([]impl.Object{fullObject()}, 4), slices.Repeat([]impl.Object{greatestObject()}, 4), slices.Repeat([]impl.Object{oneObject()}, 3)}
	few := append(someObjects()[:13], edgeObjects()...)
	for i, o := range few {
		lists = append(lists, []impl.Object{o}, []impl.Object{o, o}, []impl.Object{{}, o, {}}, []impl.Object{few[(7*i+3)%len(few)], o, few[(5*i+1)%len(few)], o})
		for _, other := range few[:i] {
			lists = append(lists, []impl.Object{o, other}, []impl.Object{other, o})
		}
	}
	for n := range 1500 {
		lists = append(lists, []impl.Object{mixedObject(n)}, []impl.Object{mixedObject(n), mixedObject(n + 1)}, []impl.Object{mixedObject(3 * n), mixedObject(3*n + 1), mixedObject(3*n + 2)}, []impl.Object{mixedObject(n), mixedObject(2 * n), mixedObject(5 * n), mixedObject(7*n + 9)})
	}
	return lists
}

// nearNames are texts near a name, none of them the name.
func nearNames(name string) []string {
	return []string{name + " ", " " + name, name + "\x00", "\x00" + name, strings.ToUpper(name), name + name, name[1:], name + "x", "_" + name, name[:len(name)-1]}
}

// spreadObjects returns objects with MaxSymbols symbols each, all bound alike and with different names.
func spreadObjects(many int, s impl.Symbol) []impl.Object {
	var list []impl.Object
	for in := range many {
		o := impl.Object{Sections: []impl.Section{filledSection(4)}}
		for _, name := range manyNames(12, string(rune('p'+in))) {
			s.Name = name
			o.Symbols = append(o.Symbols, s)
		}
		list = append(list, o)
	}
	return list
}

func TestTheLimitOfObjects(t *testing.T) {
	if impl.MaxObjects != 4 {
		t.Error("the limit is another one")
	}
}

// Promise 40: given names are found.
func TestPromise40(t *testing.T) {
	for _, o := range dumpedObjects() {
		given := impl.NamesGiven(o)
		if !ascend(given) {
			t.Errorf("the names %q do not ascend", given)
		}
		for _, name := range given {
			g, ok := impl.FindName([]impl.Object{o}, name)
			if !ok || g.In != 0 || g.At >= len(o.Symbols) || o.Symbols[g.At].Name != name || !isGiven(o.Symbols[g.At]) {
				t.Errorf("of %v %q is found at %v, %v", o, name, g, ok)
			}
		}
		// No other name of it is found.
		for _, name := range namesIn(o) {
			if _, ok := impl.FindName([]impl.Object{o}, name); ok != slices.Contains(given, name) {
				t.Errorf("of %v %q is found: %v", o, name, ok)
			}
		}
	}
	for _, list := range someLists() {
		for _, o := range list {
			for _, name := range impl.NamesGiven(o) {
				if _, ok := impl.FindName(list, name); !ok {
					t.Errorf("in %v %q is not found", list, name)
				}
			}
		}
	}
}

// Promise 51: objects are few.
func TestPromise51(t *testing.T) {
	for _, list := range someLists()[:300] {
		if !impl.ObjectsValid(list) {
			t.Errorf("%v are not valid", list)
		}
		for mask := range 1 << len(list) {
			var part []impl.Object
			for _, k := range numbersIn(mask, len(list)) {
				part = append(part, list[k])
			}
			if !impl.ObjectsValid(part) {
				t.Errorf("of %v the part %v is not valid", list, part)
			}
			for _, wrong := range wrongObjects() {
				for at := range len(part) + 1 {
					if with := slices.Insert(slices.Clone(part), at, wrong); impl.ObjectsValid(with) {
						t.Errorf("with the object %v at %d %v are valid", wrong, at, with)
					}
				}
			}
		}
	}
}

// Promise 52: found names are given.
func TestPromise52(t *testing.T) {
	for _, list := range someLists() {
		for _, name := range namesOfAll(list) {
			g, ok := impl.FindName(list, name)
			if !ok {
				continue
			}
			s := list[g.In].Symbols[g.At]
			if s.Name != name || !isGiven(s) {
				t.Errorf("in %v %q is found at %v, where %v is", list, name, g, s)
			}
			if s.Bind == weak && slices.ContainsFunc(symbolsIn(list, givesStrong), func(other impl.Symbol) bool { return other.Name == name }) {
				t.Errorf("in %v %q is found at %v, though it is given strong", list, name, g)
			}
		}
	}
}

// Promise 53: names that are given twice are found.
func TestPromise53(t *testing.T) {
	for _, list := range someLists() {
		twice := impl.NamesTwice(list)
		if !ascend(twice) {
			t.Errorf("the names %q do not ascend", twice)
		}
		for _, name := range twice {
			giving := 0
			for _, o := range list {
				if slices.Contains(impl.NamesGiven(o), name) {
					giving++
				}
			}
			if g, ok := impl.FindName(list, name); !ok || list[g.In].Symbols[g.At].Bind != strong || giving < 2 {
				t.Errorf("in %v %q is given twice, by %d objects, and found at %v, %v", list, name, giving, g, ok)
			}
		}
		for _, o := range list {
			if x := impl.NamesTwice([]impl.Object{o}); len(x) != 0 {
				t.Errorf("in %v alone %q are given twice", o, x)
			}
		}
	}
}

// Promise 54: missing names are given by nobody.
func TestPromise54(t *testing.T) {
	for _, list := range someLists() {
		missing := impl.NamesMissing(list)
		if !ascend(missing) {
			t.Errorf("the names %q do not ascend", missing)
		}
		for _, name := range missing {
			checkNotFound(t, list, name)
			if !slices.ContainsFunc(list, func(o impl.Object) bool { return slices.Contains(impl.NamesWanted(o), name) }) {
				t.Errorf("in %v %q is missing and not wanted", list, name)
			}
		}
		// What a strong symbol wants is found, or missing.
		for _, s := range symbolsIn(list, wantsStrong) {
			if _, ok := impl.FindName(list, s.Name); ok == slices.Contains(missing, s.Name) {
				t.Errorf("in %v %q is found: %v, and missing are %q", list, s.Name, ok, missing)
			}
		}
	}
}

func TestNamesAreResolved(t *testing.T) {
	for _, list := range someLists() {
		checkResolved(t, list, append(namesOfAll(list), "", "no name", "1", "zzz")...)
	}
}

// TestAllWaysToHaveAName looks at all ways in which up to four objects may have the same name.
func TestAllWaysToHaveAName(t *testing.T) {
	ways := nameWays("same")
	lists := [][]impl.Object{nil}
	for from := 0; from < len(lists) && len(lists[from]) < 3; from++ {
		for _, o := range ways {
			lists = append(lists, append(slices.Clone(lists[from]), o))
		}
	}
	for i, list := range lists {
		checkResolved(t, list, "same", "other")
		if len(list) == 3 {
			// Of the lists of four some are enough.
			for k := i % 5; k < len(ways); k += 5 {
				checkResolved(t, append(list, ways[k]), "same", "other")
			}
		}
	}
}

// resolved are the lines of objects, and what is told of them: where names are found, which are given twice, and which are missing.
type resolved struct {
	what    string
	lines   [][]string
	found   map[string]impl.Given
	lost    []string
	twice   []string
	missing []string
}

// toldResolved are objects whose names are told.
func toldResolved() []resolved {
	one := []string{"section code 1 4 6 000000000000", "fixup 1 3 1 4", "symbol main 1 0 0", "symbol puts 1 -1 0"}
	two := []string{"section lib 1 2 3 aabbcc", "section buf 3 8 5", "symbol puts 1 0 1", "symbol buf 0 1 2"}
	soft := []string{"symbol at 2 -2 9", "symbol puts 2 -2 7"}
	return []resolved{
		{"no objects", nil, nil, []string{"main", "", "a"}, nil, nil},
		{"nothing", [][]string{nil}, nil, []string{"main", "", "a"}, nil, nil},
		{"one object", [][]string{one}, map[string]impl.Given{"main": {In: 0, At: 0}}, []string{"puts", "code", ""}, nil, []string{"puts"}},
		{"a name given behind", [][]string{one, two}, map[string]impl.Given{"main": {In: 0, At: 0}, "puts": {In: 1, At: 0}}, []string{"buf", "lib", "code"}, nil, nil},
		{"a name given before", [][]string{two, one}, map[string]impl.Given{"main": {In: 1, At: 0}, "puts": {In: 0, At: 0}}, []string{"buf"}, nil, nil},
		{"a weak symbol in an earlier object", [][]string{soft, one, two}, map[string]impl.Given{"puts": {In: 2, At: 0}, "at": {In: 0, At: 0}}, []string{"buf"}, nil, nil},
		{"a weak symbol in a later object", [][]string{two, soft}, map[string]impl.Given{"puts": {In: 0, At: 0}, "at": {In: 1, At: 0}}, nil, nil, nil},
		{"a weak symbol alone", [][]string{one, soft}, map[string]impl.Given{"puts": {In: 1, At: 1}}, nil, nil, nil},
		{"weak symbols alone", [][]string{nil, soft, soft, {"symbol puts 2 -2 1"}}, map[string]impl.Given{"puts": {In: 1, At: 1}, "at": {In: 1, At: 0}}, nil, nil, nil},
		{"strong symbols in several objects", [][]string{one, two, two}, map[string]impl.Given{"puts": {In: 1, At: 0}}, nil, []string{"puts"}, nil},
		{"the same object", [][]string{one, one, one, one}, map[string]impl.Given{"main": {In: 0, At: 0}}, []string{"puts"}, []string{"main"}, []string{"puts"}},
		{"a name given by a local symbol alone", [][]string{{"symbol x 1 -1 0"}, {"symbol x 0 -2 1"}}, nil, []string{"x"}, nil, []string{"x"}},
		{"a name wanted beside a local symbol", [][]string{{"symbol x 0 -2 1", "symbol x 1 -1 0"}}, nil, []string{"x"}, nil, []string{"x"}},
		{"a name wanted by a weak symbol alone", [][]string{{"symbol x 2 -1 0"}, nil}, nil, []string{"x"}, nil, nil},
		{"a name wanted by a weak and a strong symbol", [][]string{{"symbol x 2 -1 0"}, {"symbol x 1 -1 0"}}, nil, []string{"x"}, nil, []string{"x"}},
		{"a name wanted by a strong and a weak symbol", [][]string{{"symbol x 1 -1 0"}, {"symbol x 2 -1 0"}}, nil, []string{"x"}, nil, []string{"x"}},
		{"a name wanted twice", [][]string{{"symbol x 1 -1 0"}, {"symbol x 1 -1 0"}}, nil, []string{"x"}, nil, []string{"x"}},
		{"a name given strong and weak", [][]string{{"symbol x 1 -2 1"}, {"symbol x 2 -2 1"}}, map[string]impl.Given{"x": {In: 0, At: 0}}, nil, nil, nil},
		{"a name given weak and strong twice", [][]string{{"symbol x 2 -2 1"}, {"symbol y 1 -2 1", "symbol x 1 -2 1"}, {"symbol x 1 -2 2"}}, map[string]impl.Given{"x": {In: 1, At: 1}}, nil, []string{"x"}, nil},
		{"a weak symbol between strong ones", [][]string{{"symbol x 1 -1 0"}, {"symbol x 1 -2 1"}, {"symbol x 2 -2 1"}, {"symbol x 1 -2 2"}}, map[string]impl.Given{"x": {In: 1, At: 0}}, nil, []string{"x"}, nil},
		{"a local symbol before", [][]string{{"symbol x 0 -2 1"}, {"symbol x 0 -2 2", "symbol x 1 -2 3"}}, map[string]impl.Given{"x": {In: 1, At: 1}}, nil, nil, nil},
		{"local and strong symbols", [][]string{{"symbol x 0 -2 1"}, {"symbol x 1 -2 3", "symbol x 0 -2 2"}, {"symbol x 0 -2 4"}}, map[string]impl.Given{"x": {In: 1, At: 0}}, nil, nil, nil},
		{"names by their bytes", [][]string{{"symbol ab 1 -2 1", "symbol a_ 1 -2 1", "symbol a9 1 -2 1", "symbol a. 1 -2 1", "symbol a 1 -2 1", "symbol _ 1 -1 0", "symbol b 1 -1 0", "symbol .z 1 -1 0", "symbol bb 1 -1 0"}, {"symbol a 1 -2 1", "symbol ab 1 -2 1", "symbol a. 1 -2 1", "symbol a_ 1 -2 1", "symbol a9 1 -2 1", "symbol b 1 -1 0", "symbol b. 1 -1 0"}},
			map[string]impl.Given{"ab": {In: 0, At: 0}, "a": {In: 0, At: 4}, "a9": {In: 0, At: 2}}, []string{"b", "_", "bb"}, []string{"a", "a.", "a9", "a_", "ab"}, []string{".z", "_", "b", "b.", "bb"}},
		{"some given, some missing", [][]string{{"symbol d 1 -1 0", "symbol b 1 -1 0", "symbol c 2 -1 0", "symbol a 1 -1 0"}, {"symbol b 2 -2 1", "symbol e 1 -1 0"}, {"symbol d 1 -2 1", "symbol e 0 -2 1"}},
			map[string]impl.Given{"b": {In: 1, At: 0}, "d": {In: 2, At: 0}}, []string{"a", "c", "e"}, nil, []string{"a", "e"}},
	}
}

// objectsRead returns the objects whose lines are in lists.
func objectsRead(t *testing.T, what string, lists [][]string) []impl.Object {
	t.Helper()
	var list []impl.Object
	for _, lines := range lists {
		o, ok := impl.ReadDump(lines)
		if !ok {
			t.Errorf("%s: %q is no object", what, lines)
		}
		list = append(list, o)
	}
	return list
}

func TestLinesOfResolvedObjects(t *testing.T) {
	for _, c := range toldResolved() {
		list := objectsRead(t, c.what, c.lines)
		if !impl.ObjectsValid(list) {
			t.Errorf("%s is not valid", c.what)
		}
		for name, g := range c.found {
			checkFound(t, list, name, g.In, g.At)
		}
		for _, name := range c.lost {
			checkNotFound(t, list, name)
		}
		if x := impl.NamesTwice(list); !slices.Equal(x, c.twice) {
			t.Errorf("%s: %q are given twice", c.what, x)
		}
		if x := impl.NamesMissing(list); !slices.Equal(x, c.missing) {
			t.Errorf("%s: %q are missing", c.what, x)
		}
	}
}

func TestHowManyObjectsThereAre(t *testing.T) {
	for _, o := range append(someObjects(), greatestObject(), endsObject(), sameNamesObject()) {
		for many := range 5 {
			checkResolved(t, slices.Repeat([]impl.Object{o}, many), append(namesIn(o), "")...)
		}
		for _, many := range []int{5, 6, 7, 8, 12, 13, 255, 256, 257, 260, 1000} {
			checkNotResolved(t, fmt.Sprintf("%d objects", many), slices.Repeat([]impl.Object{o}, many)...)
		}
	}
	checkNotResolved(t, "65536 objects", make([]impl.Object, 65536)...)
	// Different objects are not fewer than equal ones.
	for _, where := range []int{fixed, none, 0} {
		list := append(spreadObjects(4, impl.Symbol{Bind: strong, Where: where}), impl.Object{})
		checkResolved(t, list[:4], namesOfAll(list)...)
		checkResolved(t, list[1:], namesOfAll(list)...)
		checkNotResolved(t, "an empty object behind four", list...)
		checkNotResolved(t, "an empty object before four", slices.Insert(list[:4:4], 0, impl.Object{})...)
	}
}

func TestObjectsWithoutNames(t *testing.T) {
	for _, o := range []impl.Object{{}, {Sections: []impl.Section{}, Symbols: []impl.Symbol{}}, {Sections: manySections(8)}, blankObject(), symbolsOf(slices.Repeat([]impl.Symbol{{Name: "buf", Where: fixed}}, 12)...)} {
		for many := range 5 {
			list := slices.Repeat([]impl.Object{o}, many)
			for _, name := range []string{"", "buf", "code", "a", "main", "same"} {
				checkNotFound(t, list, name)
			}
			if len(impl.NamesTwice(list)) != 0 || len(impl.NamesMissing(list)) != 0 {
				t.Errorf("in %v %q are given twice, and %q are missing", list, impl.NamesTwice(list), impl.NamesMissing(list))
			}
		}
	}
	// Beside an object without names there is what was there without it.
	for _, list := range someLists()[:200] {
		if len(list) > 3 {
			continue
		}
		for at := range len(list) + 1 {
			with := slices.Insert(slices.Clone(list), at, impl.Object{})
			if !slices.Equal(impl.NamesTwice(with), impl.NamesTwice(list)) || !slices.Equal(impl.NamesMissing(with), impl.NamesMissing(list)) {
				t.Errorf("with an empty object at %d the names of %v are others", at, list)
			}
			for _, name := range namesOfAll(list) {
				g, ok := impl.FindName(list, name)
				if ok && g.In >= at {
					g.In++
				}
				if x, good := impl.FindName(with, name); x != g || good != ok {
					t.Errorf("with an empty object at %d %q is found at %v, %v, not at %v, %v", at, name, x, good, g, ok)
				}
			}
		}
	}
}

// TestEverySymbolIsFound puts a name at every place of four objects, and each kind of symbol that gives it.
func TestEverySymbolIsFound(t *testing.T) {
	for _, s := range []impl.Symbol{{Bind: strong, Where: fixed, Value: 3}, {Bind: weak, Where: fixed, Value: 60000}, {Bind: strong, Where: 0}, {Bind: weak, Where: 0, Value: 4}} {
		for many := 1; many <= 4; many++ {
			list := spreadObjects(many, s)
			for in, o := range list {
				for at, s := range o.Symbols {
					checkFound(t, list, s.Name, in, at)
					for _, name := range nearNames(s.Name) {
						// One name may be the beginning of another one here.
						if want, ok := foundOf(list, name); ok {
							checkFound(t, list, name, want.In, want.At)
						} else {
							checkNotFound(t, list, name)
						}
					}
				}
			}
			if len(impl.NamesTwice(list)) != 0 || len(impl.NamesMissing(list)) != 0 {
				t.Errorf("in %v %q are given twice, and %q are missing", list, impl.NamesTwice(list), impl.NamesMissing(list))
			}
		}
	}
	for _, s := range []impl.Symbol{{Where: fixed, Value: 3}, {Where: 0}, {Bind: strong, Where: none}, {Bind: weak, Where: none}} {
		list := spreadObjects(4, s)
		for _, name := range namesOfAll(list) {
			checkNotFound(t, list, name)
		}
	}
}

// TestTwoSymbolsGiveAName has two symbols with the same name at all places of different objects.
func TestTwoSymbolsGiveAName(t *testing.T) {
	for first := range 48 {
		for second := range 48 {
			if first/12 >= second/12 {
				continue
			}
			for _, binds := range [][2]int{{weak, strong}, {strong, weak}, {weak, weak}, {strong, strong}, {local, strong}, {local, weak}, {strong, local}, {weak, local}, {local, local}} {
				list := spreadObjects(4, impl.Symbol{Bind: strong, Where: fixed})
				a, b := &list[first/12].Symbols[first%12], &list[second/12].Symbols[second%12]
				*a = impl.Symbol{Name: "twice", Bind: binds[0], Where: fixed, Value: 1}
				*b = impl.Symbol{Name: "twice", Bind: binds[1], Where: 0, Value: 4}
				switch {
				case binds == [2]int{local, local}:
					checkNotFound(t, list, "twice")
				case binds == [2]int{weak, strong} || binds[0] == local:
					checkFound(t, list, "twice", second/12, second%12)
				default:
					checkFound(t, list, "twice", first/12, first%12)
				}
				if twice := slices.Contains(impl.NamesTwice(list), "twice"); twice != (binds == [2]int{strong, strong}) {
					t.Errorf("the name is given twice by the bindings %v: %v", binds, twice)
				}
			}
		}
	}
}

// TestANameInOneObject says that two symbols of one object that are not BindLocal have different names, also if one is weak.
func TestANameInOneObject(t *testing.T) {
	for _, a := range []impl.Symbol{{Name: "x", Bind: weak, Where: fixed}, {Name: "x", Bind: weak, Where: none}, {Name: "x", Bind: strong, Where: fixed}, {Name: "x", Bind: strong, Where: none}} {
		for _, b := range []impl.Symbol{{Name: "x", Bind: strong, Where: fixed}, {Name: "x", Bind: weak, Where: fixed}, {Name: "x", Bind: strong, Where: none}} {
			checkNotResolved(t, "one object", symbolsOf(a, b))
			checkNotResolved(t, "one object behind", symbolsOf(a), symbolsOf(a, b))
			checkResolved(t, []impl.Object{symbolsOf(a), symbolsOf(b)}, "x")
		}
	}
	// A weak symbol stands before the strong one, but with another name.
	o := symbolsOf(impl.Symbol{Name: "y", Bind: weak, Where: fixed}, impl.Symbol{Name: "x", Where: fixed}, impl.Symbol{Name: "x", Bind: strong, Where: fixed}, impl.Symbol{Name: "x", Where: fixed})
	checkFound(t, []impl.Object{o}, "x", 0, 2)
	checkFound(t, []impl.Object{symbolsOf(impl.Symbol{Name: "x", Bind: weak, Where: fixed}), o}, "x", 1, 2)
	checkFound(t, []impl.Object{o}, "y", 0, 0)
}

// TestSeveralObjectsGiveAName has every set of four objects give a name strong, and every other set give it weak.
func TestSeveralObjectsGiveAName(t *testing.T) {
	for hard := range 16 {
		for soft := range 16 {
			if hard&soft != 0 {
				continue
			}
			list := make([]impl.Object, 4)
			for k := range list {
				// The objects beside them want the name, strong.
				s := impl.Symbol{Name: "x", Bind: strong, Where: none}
				if hard&(1<<k) != 0 {
					s.Where = fixed
				} else if soft&(1<<k) != 0 {
					s.Bind, s.Where = weak, fixed
				}
				list[k] = symbolsOf(s)
			}
			var twice, missing []string
			if len(numbersIn(hard, 4)) > 1 {
				twice = []string{"x"}
			}
			if hard|soft == 0 {
				missing = []string{"x"}
				checkNotFound(t, list, "x")
			} else {
				checkFound(t, list, "x", slices.Concat(numbersIn(hard, 4), numbersIn(soft, 4))[0], 0)
			}
			if x := impl.NamesTwice(list); !slices.Equal(x, twice) {
				t.Errorf("in %v %q are given twice", list, x)
			}
			if x := impl.NamesMissing(list); !slices.Equal(x, missing) {
				t.Errorf("in %v %q are missing", list, x)
			}
		}
	}
}

// TestSeveralObjectsWantAName has every set of four objects want a name strong, and every other set want it weak, with or without an object that gives it.
func TestSeveralObjectsWantAName(t *testing.T) {
	for hard := range 16 {
		for soft := range 16 {
			for giver := -1; giver < 4; giver++ {
				for _, s := range []impl.Symbol{{Bind: strong, Where: fixed}, {Bind: weak, Where: fixed}, {Where: fixed}} {
					list := make([]impl.Object, 4)
					for k := range list {
						if k == giver {
							s.Name = "x"
							list[k] = symbolsOf(s)
						} else if hard&(1<<k) != 0 {
							list[k] = symbolsOf(impl.Symbol{Name: "x", Bind: strong, Where: none})
						} else if soft&(1<<k) != 0 {
							list[k] = symbolsOf(impl.Symbol{Name: "x", Bind: weak, Where: none})
						}
					}
					given := giver >= 0 && s.Bind != local
					var want []string
					if giver >= 0 {
						if hard&^(1<<giver) != 0 && !given {
							want = []string{"x"}
						}
					} else if hard != 0 {
						want = []string{"x"}
					}
					if x := impl.NamesMissing(list); !slices.Equal(x, want) {
						t.Errorf("in %v %q are missing", list, x)
					}
					if _, ok := impl.FindName(list, "x"); ok != given || len(impl.NamesTwice(list)) != 0 {
						t.Errorf("in %v the name is found: %v, and %q are given twice", list, ok, impl.NamesTwice(list))
					}
				}
			}
		}
	}
}

// TestManyNames has as many names as there may be: more than a table of names may have.
func TestManyNames(t *testing.T) {
	for many := range 5 {
		list := spreadObjects(many, impl.Symbol{Bind: strong, Where: none})
		var want []string
		for _, o := range list {
			want = append(want, impl.NamesWanted(o)...)
		}
		if x := impl.NamesMissing(list); !slices.Equal(x, want) || len(x) != 12*many || !ascend(x) {
			t.Errorf("%d names are missing: %q", len(x), x)
		}
		if x := impl.NamesMissing(spreadObjects(many, impl.Symbol{Bind: weak, Where: none})); len(x) != 0 {
			t.Errorf("%q are missing", x)
		}
	}
	two := spreadObjects(2, impl.Symbol{Bind: strong, Where: fixed})
	for _, list := range [][]impl.Object{{two[1], two[0], two[1], two[0]}, {two[0], two[0], two[1], two[1]}} {
		if x := impl.NamesTwice(list); len(x) != 24 || !ascend(x) || !slices.Equal(x, append(impl.NamesGiven(two[0]), impl.NamesGiven(two[1])...)) {
			t.Errorf("%d names are given twice: %q", len(x), x)
		}
	}
}

// TestTextsThatAreNoNamesAreNotFound looks for texts that no symbol has.
func TestTextsThatAreNoNamesAreNotFound(t *testing.T) {
	texts := append(wrongNames(), "main ", "Main", "mai", "ain", "mainx", "main\x00", "\x00main", "mainmain", "code", "lib", strings.Repeat("main", 1000), strings.Repeat("\xff", 100000))
	lists := [][]impl.Object{nil, {oneObject()}, {{}, oneObject(), fullObject(), wideObject()}}
	for _, list := range lists {
		for _, text := range texts {
			checkNotFound(t, list, text)
		}
	}
	// Names of sections are not given by them.
	o := impl.Object{Sections: manySections(8), Symbols: []impl.Symbol{{Name: "code", Bind: strong, Where: none}}}
	checkNotFound(t, []impl.Object{o, o}, "code")
	checkNotFound(t, []impl.Object{o, o}, "buf")
	if x := impl.NamesMissing([]impl.Object{o, o}); !slices.Equal(x, []string{"code"}) {
		t.Errorf("%q are missing", x)
	}
}

// TestTheOrderOfObjects turns objects and their symbols round and round.
func TestTheOrderOfObjects(t *testing.T) {
	for _, list := range [][]impl.Object{{fullObject(), oneObject(), wideObject(), greatestObject()}, {oneObject(), nameWays("puts")[6], nameWays("puts")[9], nameWays("puts")[12]}, {mixedObject(1), mixedObject(4), mixedObject(7), mixedObject(9)}} {
		twice, missing := twiceOf(list), missingOf(list)
		for range 4 {
			list = slices.Concat(list[1:], list[:1])
			turned := slices.Clone(list)
			slices.Reverse(turned)
			for i, o := range turned {
				// Without fixups symbols may stand in any order.
				turned[i] = symbolsOf(slices.Clone(o.Symbols)...)
				slices.Reverse(turned[i].Symbols)
				turned[i].Sections = nil
				for _, s := range o.Sections {
					s.Fixups = nil
					turned[i].Sections = append(turned[i].Sections, s)
				}
			}
			for _, other := range [][]impl.Object{list, turned} {
				checkResolved(t, other, namesOfAll(other)...)
				for range 5 {
					if x, y := impl.NamesTwice(other), impl.NamesMissing(other); !slices.Equal(x, twice) || !slices.Equal(y, missing) {
						t.Errorf("in %v %q are given twice, and %q missing", other, x, y)
					}
				}
			}
		}
	}
}

// notValidObjects are objects that are not valid, by what is wrong with them or by a number.
func notValidObjects() map[string]impl.Object {
	wrong := spoiledObjects()
	for i, o := range append(otherObjects(), symbolsOf(make([]impl.Symbol, 1)...), sectionsOf(make([]impl.Section, 1)...)) {
		wrong[fmt.Sprintf("the object %d", i)] = o
	}
	for _, n := range farInts {
		for i, f := range []impl.Fixup{{Kind: impl.FixupNear, To: n}, {Kind: n}, {Kind: impl.FixupNear, At: n}, {Kind: impl.FixupNear, Add: n}} {
			wrong[fmt.Sprintf("the far fixup %d, %d", i, n)] = impl.Object{Sections: []impl.Section{filledSection(4, f)}, Symbols: fixedSymbols(12)}
		}
		for i, s := range []impl.Symbol{{Name: "s", Bind: n}, {Name: "s", Where: n}, {Name: "s", Value: n}, {Name: "s", Bind: strong, Where: none, Value: n}} {
			wrong[fmt.Sprintf("the far symbol %d, %d", i, n)] = impl.Object{Sections: manySections(2), Symbols: []impl.Symbol{s}}
		}
	}
	return wrong
}

// TestOneWrongObject puts an object that is not valid at every place among valid ones.
func TestOneWrongObject(t *testing.T) {
	wrong := notValidObjects()
	// They give and want names twice, if one does not look.
	beside := symbolsOf(impl.Symbol{Name: "give", Bind: strong, Where: fixed}, impl.Symbol{Name: "want", Bind: strong, Where: none}, impl.Symbol{Name: "f0", Bind: weak, Where: fixed})
	for what, o := range wrong {
		checkNotResolved(t, what, o)
		for many := 1; many <= 3; many++ {
			for at := range many + 1 {
				checkNotResolved(t, fmt.Sprintf("%s at %d of %d", what, at, many+1), slices.Insert(slices.Repeat([]impl.Object{beside}, many), at, o)...)
			}
		}
		checkNotResolved(t, what+" four times", o, o, o, o)
		checkNotResolved(t, what+" at the end of five", beside, beside, impl.Object{}, impl.Object{}, o)
	}
}

// roomyList returns objects with memory of their own, with room behind each of their lists and behind the last object.
func roomyList(given []impl.Object) []impl.Object {
	list := make([]impl.Object, 0, len(given)+2)
	for _, o := range given {
		list = append(list, roomy(o))
	}
	return list
}

// checkLeftAlone says that objects of roomyList, and the room there, are as they were made.
func checkLeftAlone(t *testing.T, list, given []impl.Object) {
	t.Helper()
	if behind := list[len(list):cap(list)]; !reflect.DeepEqual(behind, make([]impl.Object, 2)) {
		t.Errorf("behind the objects %v %v is written", given, behind)
	}
	for i, o := range list {
		if was := wholeOf(roomy(given[i])); !reflect.DeepEqual(wholeOf(o), was) {
			t.Errorf("%v was changed to %v", was, o)
		}
	}
}

// spoilList puts something else into each list of objects, up to its capacity, and in the place of the objects.
func spoilList(list []impl.Object) {
	for _, o := range list {
		spoil(o)
	}
	fillUp(list, symbolsOf(impl.Symbol{Name: "spoiled"}))
}

// TestNamesOfObjectsHaveTheirOwnMemory changes what the functions return, and what they were given.
func TestNamesOfObjectsHaveTheirOwnMemory(t *testing.T) {
	for _, given := range append(someLists()[:400], spreadObjects(4, impl.Symbol{Bind: strong, Where: none}), slices.Repeat(spreadObjects(1, impl.Symbol{Bind: strong, Where: fixed}), 4)) {
		list := roomyList(given)
		names := namesOfAll(given)
		for _, namesOf := range []func([]impl.Object) []string{impl.NamesTwice, impl.NamesMissing} {
			first, second := namesOf(list), namesOf(list)
			want := slices.Clone(first)
			fillUp(first, "spoiled")
			if !slices.Equal(second, want) || !slices.Equal(namesOf(list), want) {
				t.Errorf("in %v %q changes with another result", given, want)
			}
			checkLeftAlone(t, list, given)
		}
		twice, missing := impl.NamesTwice(list), impl.NamesMissing(list)
		fillUp(impl.NamesTwice(list), "spoiled")
		if !slices.Equal(missing, missingOf(given)) {
			t.Errorf("in %v %q are missing, with the names changed that are given twice", given, missing)
		}
		for _, name := range names {
			impl.FindName(list, name)
		}
		impl.ObjectsValid(list)
		checkLeftAlone(t, list, given)
		spoilList(list)
		if !slices.Equal(twice, twiceOf(given)) || !slices.Equal(missing, missingOf(given)) {
			t.Errorf("%q and %q change with the objects %v", twice, missing, given)
		}
	}
}

// TestObjectsBehindTheLengthAreNotThere says that a list ends with its length, and lists of symbols, too.
func TestObjectsBehindTheLengthAreNotThere(t *testing.T) {
	list := spreadObjects(4, impl.Symbol{Bind: strong, Where: fixed})
	list = append(list, symbolsOf(impl.Symbol{Name: "s", Where: none}), list[0])
	for many := range 5 {
		for in, o := range list[:4] {
			for at, s := range o.Symbols {
				if in < many {
					checkFound(t, list[:many], s.Name, in, at)
				} else {
					checkNotFound(t, list[:many], s.Name)
				}
			}
		}
		if x := impl.NamesTwice(list[:many]); len(x) != 0 {
			t.Errorf("of %d objects %q are given twice", many, x)
		}
	}
	checkNotResolved(t, "what stands behind the length", list...)
	for many := range 13 {
		o := symbolsOf(fixedSymbols(12)[:many]...)
		o.Symbols = append(o.Symbols, fixedSymbols(12)...)[:many]
		checkResolved(t, []impl.Object{o, o}, manyNames(12, "f")...)
		if x := impl.NamesTwice([]impl.Object{o, o}); len(x) != many {
			t.Errorf("of %d names %q are given twice", many, x)
		}
	}
}

// TestCallsDoNotRemember calls the functions with one list and another one, in turn.
func TestCallsDoNotRemember(t *testing.T) {
	lists := someLists()[:120]
	for range 2 {
		for i, list := range lists {
			checkResolved(t, list, "main", "puts", "b", "f0")
			checkNotResolved(t, "five objects", make([]impl.Object, 5)...)
			checkResolved(t, lists[len(lists)-1-i], "main", "puts", "b", "f0")
		}
	}
}
