package tests

import (
	"fmt"
	"math"
	"reflect"
	"slices"
	"testing"

	"loop.example/objectlinker/impl"
)

// meantOf says as the document tells it which place a symbol means, when sections are at these places.
func meantOf(list []impl.Object, places [][]int, k, j int) (int, bool) {
	s := list[k].Symbols[j]
	if s.Bind != local {
		g, ok := foundOf(list, s.Name)
		if !ok {
			return 0, s.Bind == weak
		}
		k, s = g.In, list[g.In].Symbols[g.At]
	}
	if s.Where == fixed {
		return s.Value, true
	}
	return places[k][s.Where] + s.Value, true
}

// namePlaceOf says as the document tells it at which place a name is, when sections are at these places.
func namePlaceOf(list []impl.Object, places [][]int, name string) (int, bool) {
	g, ok := foundOf(list, name)
	if !ok {
		return 0, false
	}
	return meantOf(list, places, g.In, g.At)
}

// checkMeantAt says which place a symbol means.
func checkMeantAt(t *testing.T, what string, list []impl.Object, base, k, j, want int, known bool) {
	t.Helper()
	if n, ok := impl.SymbolPlace(list, base, k, j); n != want || ok != known {
		t.Errorf("%s: from %d on the symbol %d of the object %d of %v means %d, %v, not %d, %v", what, base, j, k, list, n, ok, want, known)
	}
}

// checkNamesAt says at which places names are.
func checkNamesAt(t *testing.T, what string, list []impl.Object, base int, names []string, want ...int) {
	t.Helper()
	if x, ok := impl.NamePlaces(list, base, names); !ok || !slices.Equal(x, want) {
		t.Errorf("%s: from %d on %q of %v are at %v, %v, not at %v", what, base, names, list, x, ok, want)
	}
}

// checkNamesNowhere says that of names one is not given.
func checkNamesNowhere(t *testing.T, what string, list []impl.Object, base int, names ...string) {
	t.Helper()
	if x, ok := impl.NamePlaces(list, base, names); x != nil || ok {
		t.Errorf("%s: from %d on %q of %v are at %v, %v", what, base, names, list, x, ok)
	}
}

// checkMeant holds what symbols of valid objects and names mean against what they should.
func checkMeant(t *testing.T, what string, list []impl.Object, base int, names ...string) {
	t.Helper()
	places := placedOf(list, base).places
	for k, o := range list {
		for j := range o.Symbols {
			want, known := meantOf(list, places, k, j)
			checkMeantAt(t, what, list, base, k, j, want, known)
		}
		checkMeantAt(t, what+", a symbol before the first one", list, base, k, -1, 0, false)
		checkMeantAt(t, what+", a symbol behind the last one", list, base, k, len(o.Symbols), 0, false)
	}
	for _, k := range []int{-1, len(list)} {
		checkMeantAt(t, what+", an object that is not there", list, base, k, 0, 0, false)
	}
	var given []string
	var want []int
	for _, name := range names {
		if n, ok := namePlaceOf(list, places, name); ok {
			checkNamesAt(t, what, list, base, []string{name}, n)
			given, want = append(given, name), append(want, n)
		} else {
			checkNamesNowhere(t, what, list, base, name)
		}
	}
	checkNamesAt(t, what, list, base, given, want...)
}

// checkMeansNothing says that arguments are not valid, whatever symbols and names are asked for, and that they stay as they are.
func checkMeansNothing(t *testing.T, what string, base int, list ...impl.Object) {
	t.Helper()
	was := cloneObjects(list)
	for _, k := range []int{-1, 0, len(list) - 1, len(list)} {
		for _, j := range []int{-1, 0, 1, 11, 12} {
			checkMeantAt(t, what, list, base, k, j, 0, false)
		}
	}
	checkNamesNowhere(t, what, list, base)
	names := append(namesOfAll(list), "give", "want", "f0", "")
	for _, name := range names {
		checkNamesNowhere(t, what, list, base, name)
	}
	checkNamesNowhere(t, what, list, base, names...)
	checkSame(t, what, list, was)
}

// apart returns objects whose fixed symbols have different values, at which no section is, so that a place tells which symbol is meant.
func apart(list ...impl.Object) []impl.Object {
	x := cloneObjects(list)
	for k, o := range x {
		for j, s := range o.Symbols {
			if s.Where == fixed {
				o.Symbols[j].Value = 10000 + 1000*k + j
			}
		}
	}
	return x
}

// ordersOf returns names in all orders.
func ordersOf(names []string) [][]string {
	if len(names) == 0 {
		return [][]string{nil}
	}
	var orders [][]string
	for _, rest := range ordersOf(names[1:]) {
		for at := range names {
			orders = append(orders, slices.Insert(slices.Clone(rest), at, names[0]))
		}
	}
	return orders
}

// Promise 56: symbols mean places.
func TestPromise56(t *testing.T) {
	for i, list := range someLists() {
		for _, base := range []int{8 * (i % 512), 4088}[:1+i%2] {
			meant := map[string]int{}
			for k, o := range list {
				for j, s := range o.Symbols {
					n, ok := impl.SymbolPlace(list, base, k, j)
					if !ok && s.Where != none || n < 0 {
						t.Errorf("the symbol %d of the object %d of %v means %d, %v", j, k, list, n, ok)
					}
					moved, known := impl.SymbolPlace(list, base+8, k, j)
					if known != ok {
						t.Errorf("the symbol %d of the object %d of %v means something, %v, and from %d on, %v", j, k, list, ok, base+8, known)
					}
					if s.Bind == local {
						want := n
						if s.Where != fixed {
							want += 8
						}
						if moved != want {
							t.Errorf("the symbol %d of the object %d of %v means %d, but from %d on %d", j, k, list, n, base+8, moved)
						}
						continue
					}
					if other, there := meant[s.Name]; there && other != n {
						t.Errorf("in %v %q means %d and %d", list, s.Name, other, n)
					}
					meant[s.Name] = n
				}
			}
		}
	}
}

// Promise 57: names mean places.
func TestPromise57(t *testing.T) {
	for _, list := range someLists() {
		var given []string
		for _, o := range list {
			given = append(given, impl.NamesGiven(o)...)
		}
		places, ok := impl.NamePlaces(list, 8, given)
		if !ok || len(places) != len(given) {
			t.Fatalf("in %v the names %q are at %v, %v", list, given, places, ok)
		}
		for i, name := range given {
			g, _ := impl.FindName(list, name)
			if n, ok := impl.SymbolPlace(list, 8, g.In, g.At); !ok || n != places[i] {
				t.Errorf("in %v %q is at %d, and the symbol %v at %d, %v", list, name, places[i], g, n, ok)
			}
		}
		for _, name := range append(namesOfAll(list), "zzz", "") {
			if slices.Contains(given, name) {
				continue
			}
			for _, names := range [][]string{{name}, append(slices.Clone(given), name), slices.Insert(slices.Clone(given), 0, name), slices.Insert(slices.Clone(given), len(given)/2, name)} {
				if x, ok := impl.NamePlaces(list, 8, names); ok || x != nil {
					t.Errorf("in %v the names %q are at %v, though %q is not given", list, names, x, name)
				}
			}
		}
	}
}

func TestSymbolsMeanPlaces(t *testing.T) {
	for i, list := range someLists() {
		names := append(namesOfAll(list), "", "no name", "1", "zzz")
		checkMeant(t, "a list", list, someBases[i%len(someBases)], names...)
		checkMeant(t, "a list with different values", apart(list...), someBases[(i+1)%len(someBases)], names...)
	}
	for _, list := range someLists()[:150] {
		for _, base := range someBases {
			checkMeant(t, "a list", list, base, namesOfAll(list)...)
		}
	}
}

// TestAllWaysToMeanAPlace looks at all ways in which up to three objects may have the same name, and at some of four.
func TestAllWaysToMeanAPlace(t *testing.T) {
	ways := nameWays("same")
	for i, a := range ways {
		checkMeant(t, "one object", apart(a), 8, "same", "other")
		for j, b := range ways {
			checkMeant(t, "two objects", apart(a, b), 8, "same", "other")
			for k, c := range ways {
				checkMeant(t, "three objects", apart(a, b, c), 8, "same", "other")
				if (i+2*j+3*k)%7 == 0 {
					checkMeant(t, "four objects", apart(c, a, ways[(i+j+k)%len(ways)], b), 8, "same", "other")
				}
			}
		}
	}
}

// meantLines are the lines of objects, a base, and what is told of them then: the places of all symbols, or -1 if one has none, those of names, and names that are nowhere.
type meantLines struct {
	what   string
	lines  [][]string
	base   int
	places [][]int
	names  map[string]int
	lost   []string
}

// toldMeant are objects whose symbols are told the places of.
func toldMeant() []meantLines {
	one := []string{"section code 1 4 6 000000000000", "fixup 1 3 1 4", "symbol main 1 0 0", "symbol puts 1 -1 0"}
	two := []string{"section lib 1 2 3 aabbcc", "section buf 3 8 5", "symbol puts 1 0 1", "symbol buf 0 1 2"}
	soft := []string{"symbol at 2 -2 90", "symbol puts 2 -2 70"}
	hard := []string{"symbol puts 1 -2 500"}
	four := "section a 1 1 4 01020304"
	return []meantLines{
		{"no objects", nil, 8, nil, nil, []string{"main", "", "a"}},
		{"nothing", [][]string{nil}, 8, [][]int{nil}, nil, []string{"main", "", "a"}},
		{"one object", [][]string{one}, 16, [][]int{{16, -1}}, map[string]int{"main": 16}, []string{"puts", "code"}},
		{"a name given behind", [][]string{one, two}, 16, [][]int{{16, 23}, {23, 34}}, map[string]int{"main": 16, "puts": 23}, []string{"buf", "lib"}},
		{"a name given before", [][]string{two, one}, 16, [][]int{{17, 34}, {20, 17}}, map[string]int{"main": 20, "puts": 17}, []string{"buf"}},
		{"a weak symbol before", [][]string{soft, one, two}, 0, [][]int{{90, 7}, {0, 7}, {7, 18}}, map[string]int{"main": 0, "puts": 7, "at": 90}, []string{"buf"}},
		{"a weak symbol behind", [][]string{two, soft}, 8, [][]int{{9, 18}, {90, 9}}, map[string]int{"puts": 9, "at": 90}, nil},
		{"a weak symbol alone", [][]string{one, soft}, 8, [][]int{{8, 70}, {90, 70}}, map[string]int{"main": 8, "puts": 70, "at": 90}, nil},
		{"two weak symbols", [][]string{nil, soft, {"symbol puts 2 -2 1"}}, 8, [][]int{nil, {90, 70}, {70}}, map[string]int{"puts": 70, "at": 90}, nil},
		{"two weak symbols the other way round", [][]string{{"symbol puts 2 -2 1"}, one, soft}, 0, [][]int{{1}, {0, 1}, {90, 1}}, map[string]int{"puts": 1, "at": 90}, nil},
		{"two strong symbols", [][]string{one, two, hard}, 0, [][]int{{0, 7}, {7, 18}, {7}}, map[string]int{"puts": 7, "main": 0}, nil},
		{"two strong symbols the other way round", [][]string{hard, one, two}, 0, [][]int{{500}, {0, 500}, {500, 18}}, map[string]int{"puts": 500}, nil},
		{"weak, strong and weak", [][]string{soft, hard, soft, one}, 0, [][]int{{90, 500}, {500}, {90, 500}, {0, 500}}, map[string]int{"puts": 500, "at": 90}, nil},
		{"a weak symbol that nobody gives", [][]string{{"symbol w 2 -1 0"}}, 4096, [][]int{{0}}, nil, []string{"w"}},
		{"a weak symbol that nobody gives beside code", [][]string{one, {"symbol w 2 -1 0", "symbol v 2 -1 0"}, two}, 4096, [][]int{{4096, 4103}, {0, 0}, {4103, 4114}}, map[string]int{"puts": 4103}, []string{"w", "v"}},
		{"a strong symbol that nobody gives", [][]string{{"symbol w 1 -1 0", "symbol x 1 -2 3"}}, 0, [][]int{{-1, 3}}, map[string]int{"x": 3}, []string{"w"}},
		{"a weak and a strong symbol that nobody gives", [][]string{{"symbol w 2 -1 0"}, {"symbol w 1 -1 0"}}, 8, [][]int{{0}, {-1}}, nil, []string{"w"}},
		{"a strong and a weak symbol that nobody gives", [][]string{{"symbol w 1 -1 0"}, {"symbol w 2 -1 0"}}, 8, [][]int{{-1}, {0}}, nil, []string{"w"}},
		{"a weak symbol whose name is local in another object", [][]string{{"symbol w 2 -1 0"}, {"symbol w 0 -2 5"}}, 8, [][]int{{0}, {5}}, nil, []string{"w"}},
		{"a weak symbol whose name is local in its object", [][]string{{"symbol w 0 -2 5", "symbol w 2 -1 0", "symbol w 0 -2 6"}}, 8, [][]int{{5, 0, 6}}, nil, []string{"w"}},
		{"a strong symbol whose name is local in its object", [][]string{{"symbol w 0 -2 5", "symbol w 1 -1 0"}}, 8, [][]int{{5, -1}}, nil, []string{"w"}},
		{"a weak symbol that a weak one gives", [][]string{{"symbol w 2 -1 0"}, {"symbol w 2 -2 5"}, {"symbol w 1 -1 0"}}, 8, [][]int{{5}, {5}, {5}}, map[string]int{"w": 5}, nil},
		{"local symbols beside strong ones", [][]string{{"section a 1 1 3 010203", "symbol x 0 0 3"}, {"symbol x 1 -2 60000"}, {"symbol x 1 -1 0", "symbol x 0 -2 0"}}, 8, [][]int{{11}, {60000}, {60000, 0}}, map[string]int{"x": 60000}, nil},
		{"several local symbols in one object", [][]string{{four, "symbol x 0 0 3", "symbol x 2 0 2", "symbol x 0 0 1", "symbol x 0 -2 9"}}, 8, [][]int{{11, 10, 9, 9}}, map[string]int{"x": 10}, nil},
		{"a name whose place is 0", [][]string{{"symbol x 2 -1 0", "symbol y 1 -1 0"}, {"symbol x 1 -2 0", "symbol y 2 -2 0"}}, 8, [][]int{{0, 0}, {0, 0}}, map[string]int{"x": 0, "y": 0}, nil},
		{"ends of sections", [][]string{{"section a 3 8 48", "section b 2 2 1 01", "section c 1 1 0", "symbol a 1 0 48", "symbol b 2 1 1", "symbol c 0 2 0"}}, 4096, [][]int{{4152, 4097, 4096}}, map[string]int{"a": 4152, "b": 4097}, []string{"c"}},
		{"kinds in several objects", [][]string{{"section a 3 1 3", "section b 1 1 3 010203", "symbol a 1 0 3", "symbol b 0 1 1"}, {"symbol a 2 -1 0", "symbol d 1 -1 0"}, {"section a 1 2 2 0102", "section b 2 1 1 01", "section c 1 4 1 01", "section d 3 8 2", "symbol d 1 3 2", "symbol c 2 2 1", "symbol b 0 1 1"}, {"section a 2 2 2 0102", "symbol e 1 0 2"}}, 24,
			[][]int{{51, 25}, {51, 58}, {58, 33, 41}, {44}}, map[string]int{"a": 51, "d": 58, "c": 33, "e": 44}, []string{"b"}},
		{"two weak symbols in sections", [][]string{{four, "symbol x 2 0 1"}, {four, "symbol x 2 0 1"}}, 0, [][]int{{1}, {1}}, map[string]int{"x": 1}, nil},
		{"a weak and a strong symbol in sections", [][]string{{four, "symbol x 2 0 1"}, {four, "symbol x 1 0 1"}}, 0, [][]int{{5}, {5}}, map[string]int{"x": 5}, nil},
		{"the same object four times", [][]string{two, two, two, two}, 0, [][]int{{1, 18}, {1, 26}, {1, 34}, {1, 42}}, map[string]int{"puts": 1}, []string{"buf"}},
	}
}

func TestLinesOfMeantSymbols(t *testing.T) {
	for _, c := range toldMeant() {
		list := objectsRead(t, c.what, c.lines)
		for k, places := range c.places {
			if len(places) != len(list[k].Symbols) {
				t.Errorf("%s: the object %d has %d symbols", c.what, k, len(list[k].Symbols))
			}
			for j, n := range places {
				checkMeantAt(t, c.what, list, c.base, k, j, max(n, 0), n >= 0)
			}
		}
		for name, n := range c.names {
			checkNamesAt(t, c.what, list, c.base, []string{name}, n)
			checkNamesAt(t, c.what, list, c.base, []string{name, name, name}, n, n, n)
			for _, lost := range c.lost {
				checkNamesNowhere(t, c.what, list, c.base, name, lost)
				checkNamesNowhere(t, c.what, list, c.base, lost, name)
				checkNamesNowhere(t, c.what, list, c.base, name, lost, name)
			}
		}
		for _, lost := range c.lost {
			checkNamesNowhere(t, c.what, list, c.base, lost)
		}
		checkNamesAt(t, c.what, list, c.base, nil)
		checkNamesAt(t, c.what, list, c.base, []string{})
	}
}

// TestEverySymbolMeansItsPlace has as many symbols as there may be, all with different names and places.
func TestEverySymbolMeansItsPlace(t *testing.T) {
	for _, bind := range []int{strong, weak, local} {
		for many := 1; many <= 4; many++ {
			list := spreadObjects(many, impl.Symbol{Bind: bind, Where: fixed})
			var names []string
			var want []int
			for k, o := range list {
				for j := range o.Symbols {
					if j%3 == 0 {
						// filledSection(4) is of the first object at 8, of the second one at 12, and so on.
						o.Symbols[j].Where, o.Symbols[j].Value = 0, j/3
						want = append(want, 8+4*k+j/3)
					} else {
						o.Symbols[j].Value = 60000 - 20*k - j
						want = append(want, 60000-20*k-j)
					}
					names = append(names, o.Symbols[j].Name)
				}
			}
			for i, n := range want {
				checkMeantAt(t, "all symbols", list, 8, i/12, i%12, n, true)
			}
			if bind == local {
				for _, name := range names {
					checkNamesNowhere(t, "local symbols", list, 8, name)
				}
				continue
			}
			checkNamesAt(t, "all symbols", list, 8, names, want...)
			slices.Reverse(names)
			slices.Reverse(want)
			checkNamesAt(t, "all symbols from behind", list, 8, names, want...)
		}
	}
}

// TestEveryBindMeansAPlace tells for every kind of symbol what it means alone, and beside objects that give its name.
func TestEveryBindMeansAPlace(t *testing.T) {
	giver := func(bind, value int) impl.Object {
		return symbolsOf(impl.Symbol{Name: "x", Bind: bind, Where: fixed, Value: value})
	}
	// The section is at 16.
	for _, c := range []struct {
		s                                        impl.Symbol
		alone, weakOf, strongOf, behind, localOf int
	}{
		{impl.Symbol{Bind: local, Where: 0, Value: 2}, 18, 18, 18, 18, 18},
		{impl.Symbol{Bind: local, Where: fixed, Value: 5}, 5, 5, 5, 5, 5},
		{impl.Symbol{Bind: strong, Where: 0, Value: 2}, 18, 18, 700, 18, 18},
		{impl.Symbol{Bind: strong, Where: fixed, Value: 5}, 5, 5, 700, 5, 5},
		{impl.Symbol{Bind: strong, Where: none}, -1, 600, 700, 700, -1},
		{impl.Symbol{Bind: weak, Where: 0, Value: 2}, 18, 600, 700, 700, 18},
		{impl.Symbol{Bind: weak, Where: fixed, Value: 5}, 5, 600, 700, 700, 5},
		{impl.Symbol{Bind: weak, Where: none}, 0, 600, 700, 700, 0},
	} {
		c.s.Name = "x"
		o := impl.Object{Sections: []impl.Section{filledSection(4)}, Symbols: []impl.Symbol{{Name: "y", Bind: weak, Where: 0}, c.s}}
		for _, with := range []struct {
			what string
			list []impl.Object
			k    int
			want int
		}{
			{"alone", []impl.Object{o}, 0, c.alone},
			{"behind a weak one", []impl.Object{giver(weak, 600), o}, 1, c.weakOf},
			{"behind a strong one", []impl.Object{giver(strong, 700), o}, 1, c.strongOf},
			{"behind a weak and a strong one", []impl.Object{giver(weak, 600), giver(strong, 700), o}, 2, c.strongOf},
			{"behind a strong and a weak one", []impl.Object{giver(strong, 700), giver(weak, 600), o}, 2, c.strongOf},
			{"before a strong one", []impl.Object{o, giver(strong, 700)}, 0, c.behind},
			{"before a weak and two strong ones", []impl.Object{o, giver(weak, 600), giver(strong, 700), giver(strong, 800)}, 0, c.behind},
			{"between local ones", []impl.Object{giver(local, 900), o, giver(local, 901)}, 1, c.localOf},
		} {
			if !impl.ObjectsValid(with.list) {
				t.Fatalf("%v are not valid", with.list)
			}
			checkMeantAt(t, with.what, with.list, 16, with.k, 1, max(with.want, 0), with.want >= 0)
		}
	}
}

// TestWeakSymbolsThatNobodyGives has every set of four objects want a name weak, and every other set want it strong.
func TestWeakSymbolsThatNobodyGives(t *testing.T) {
	for soft := range 16 {
		for hard := range 16 {
			if soft&hard != 0 {
				continue
			}
			list := make([]impl.Object, 4)
			for k := range list {
				// The objects beside them have the name for themselves.
				s := impl.Symbol{Name: "x", Bind: local, Where: 0, Value: 3}
				if soft&(1<<k) != 0 {
					s = impl.Symbol{Name: "x", Bind: weak, Where: none}
				} else if hard&(1<<k) != 0 {
					s = impl.Symbol{Name: "x", Bind: strong, Where: none}
				}
				list[k] = impl.Object{Sections: []impl.Section{filledSection(4)}, Symbols: []impl.Symbol{s}}
			}
			for _, base := range someBases {
				for k := range list {
					switch {
					case soft&(1<<k) != 0:
						checkMeantAt(t, "weak", list, base, k, 0, 0, true)
					case hard&(1<<k) != 0:
						checkMeantAt(t, "strong", list, base, k, 0, 0, false)
					default:
						checkMeantAt(t, "local", list, base, k, 0, base+4*k+3, true)
					}
				}
				checkNamesNowhere(t, "a name that nobody gives", list, base, "x")
			}
		}
	}
}

// TestEveryPlaceOfASectionIsMeant has symbols at all places of sections of all kinds and sizes, bound in each way.
func TestEveryPlaceOfASectionIsMeant(t *testing.T) {
	for kind := code; kind <= blank; kind++ {
		for size := range 49 {
			for value := range size + 1 {
				s := impl.Symbol{Name: "x", Bind: (size + value) % 3, Where: 1, Value: value}
				want := impl.Symbol{Name: "x", Bind: strong, Where: none}
				list := []impl.Object{symbolsOf(want), {Sections: []impl.Section{sizedSection(kind, 1, 8), sizedSection(kind, 8, size)}, Symbols: []impl.Symbol{s}}}
				checkMeantAt(t, "a place of a section", list, 4096, 1, 0, 4104+value, true)
				if s.Bind == local {
					checkMeantAt(t, "a place of a section, local", list, 4096, 0, 0, 0, false)
					checkNamesNowhere(t, "a place of a section, local", list, 4096, "x")
				} else {
					checkMeantAt(t, "a place of a section, from elsewhere", list, 4096, 0, 0, 4104+value, true)
					checkNamesAt(t, "a place of a section", list, 4096, []string{"x"}, 4104+value)
				}
			}
		}
	}
}

// TestFixedValuesAreMeant has values from 0 to the greatest one, which no base moves.
func TestFixedValuesAreMeant(t *testing.T) {
	values := []int{0, 1, 7, 8, 127, 128, 255, 256, 4096, 32767, 32768, 59999, 60000}
	for value := 3; value < 60000; value += 997 {
		values = append(values, value)
	}
	for _, value := range values {
		for _, bind := range []int{local, strong, weak} {
			o := impl.Object{Sections: []impl.Section{filledSection(5)}, Symbols: []impl.Symbol{{Name: "x", Bind: bind, Where: fixed, Value: value}}}
			for _, base := range someBases {
				checkMeantAt(t, "a fixed value", []impl.Object{o, {}}, base, 0, 0, value, true)
				if bind != local {
					checkMeantAt(t, "a fixed value of another object", []impl.Object{symbolsOf(impl.Symbol{Name: "x", Bind: weak, Where: none}), o}, base, 0, 0, value, true)
					checkNamesAt(t, "a fixed value", []impl.Object{o}, base, []string{"x"}, value)
				}
			}
		}
	}
}

// TestEveryBaseMovesSymbols goes through all bases and many more numbers.
func TestEveryBaseMovesSymbols(t *testing.T) {
	list := []impl.Object{
		{Sections: []impl.Section{filledSection(3)}, Symbols: []impl.Symbol{{Name: "in", Bind: strong, Value: 3}, {Name: "here", Value: 1}, {Name: "set", Bind: strong, Where: fixed, Value: 77}, {Name: "lost", Bind: weak, Where: none}}},
		{Sections: []impl.Section{blankSection(9)}, Symbols: []impl.Symbol{{Name: "in", Bind: weak, Value: 9}, {Name: "here", Value: 9}, {Name: "end", Bind: weak, Value: 9}, {Name: "lost", Bind: strong, Where: none}}},
	}
	for base := -100; base <= 4200; base++ {
		if base < 0 || base > 4096 || base%8 != 0 {
			checkMeansNothing(t, "a wrong base", base, list...)
			continue
		}
		for k, places := range [][]int{{base + 3, base + 1, 77, 0}, {base + 3, base + 17, base + 17}} {
			for j, n := range places {
				checkMeantAt(t, "a base", list, base, k, j, n, true)
			}
		}
		checkMeantAt(t, "a base", list, base, 1, 3, 0, false)
		checkNamesAt(t, "a base", list, base, []string{"set", "end", "in"}, 77, base+17, base+3)
	}
}

// TestWrongBasesMeanNothing has bases that are wrong for all valid objects.
func TestWrongBasesMeanNothing(t *testing.T) {
	for _, list := range someLists()[:120] {
		for _, base := range wrongBases {
			checkMeansNothing(t, "a wrong base", base, list...)
		}
	}
	// Also what no base moves means nothing.
	o := symbolsOf(impl.Symbol{Name: "x", Where: fixed, Value: 1}, impl.Symbol{Name: "y", Bind: strong, Where: fixed}, impl.Symbol{Name: "z", Bind: weak, Where: none})
	for _, base := range wrongBases {
		checkMeansNothing(t, "a wrong base of an object without sections", base, o)
		checkMeansNothing(t, "a wrong base of no objects", base)
	}
}

// TestSymbolsThatAreNotThere asks for objects and symbols before the first ones and behind the last ones.
func TestSymbolsThatAreNotThere(t *testing.T) {
	wrong := append([]int{-100, -13, -12, -5, -4, -3, -2, -1, math.MinInt, math.MinInt + 1, math.MaxInt, math.MaxInt - 1, 1 << 32, -1 << 32, 1<<32 + 1}, farInts...)
	full := spreadObjects(4, impl.Symbol{Bind: strong, Where: 0})
	for many := range 5 {
		for _, list := range [][]impl.Object{full[:many], slices.Repeat([]impl.Object{oneObject()}, many), slices.Repeat([]impl.Object{symbolsOf(impl.Symbol{Name: "w", Bind: weak, Where: none})}, many), make([]impl.Object, many)} {
			for _, k := range append(numbersUpTo(many, 20), wrong...) {
				if k >= 0 && k < many {
					continue
				}
				for _, j := range append(numbersUpTo(0, 13), wrong...) {
					checkMeantAt(t, "no such object", list, 8, k, j, 0, false)
				}
			}
			for k, o := range list {
				for _, j := range append(numbersUpTo(len(o.Symbols), 60), wrong...) {
					if j < 0 || j >= len(o.Symbols) {
						checkMeantAt(t, "no such symbol", list, 8, k, j, 0, false)
					}
				}
			}
		}
	}
	// Objects have different numbers of symbols.
	list := []impl.Object{symbolsOf(fixedSymbols(3)...), {}, symbolsOf(fixedSymbols(12)...), symbolsOf(fixedSymbols(1)...)}
	for k, o := range list {
		for j := -3; j < 20; j++ {
			if j >= 0 && j < len(o.Symbols) {
				checkMeantAt(t, "different numbers", list, 8, k, j, j, true)
			} else {
				checkMeantAt(t, "different numbers", list, 8, k, j, 0, false)
			}
		}
	}
}

func TestHowManyObjectsMeanPlaces(t *testing.T) {
	for _, o := range append(someObjects(), greatestObject(), endsObject(), sameNamesObject()) {
		for many := range 5 {
			for _, base := range []int{0, 4096} {
				checkMeant(t, "the same object", slices.Repeat([]impl.Object{o}, many), base, namesIn(o)...)
			}
		}
		for _, many := range []int{5, 6, 7, 8, 16, 256, 260} {
			for _, base := range []int{0, 4096, 4} {
				checkMeansNothing(t, fmt.Sprintf("%d objects", many), base, slices.Repeat([]impl.Object{o}, many)...)
			}
		}
	}
	checkMeansNothing(t, "65536 objects", 0, make([]impl.Object, 65536)...)
	o := symbolsOf(fixedSymbols(2)...)
	checkMeansNothing(t, "an empty object behind four", 0, o, o, o, o, impl.Object{})
	checkMeansNothing(t, "an empty object before four", 0, impl.Object{}, o, o, o, o)
	// The greatest place in a section that there may be.
	great := slices.Repeat([]impl.Object{{Sections: slices.Repeat([]impl.Section{sizedSection(data, 8, 48)}, 8), Symbols: []impl.Symbol{{Name: "end", Where: 7, Value: 48}}}}, 4)
	checkMeantAt(t, "the greatest objects", great, 4096, 3, 0, 4096+4*8*48, true)
	checkMeantAt(t, "the greatest objects", great, 4096, 0, 0, 4096+8*48, true)
}

// TestObjectsWithoutSectionsOrSymbols puts such objects at every place among others.
func TestObjectsWithoutSectionsOrSymbols(t *testing.T) {
	few := []impl.Object{oneObject(), someObjects()[12]}
	names := []string{"main", "puts"}
	want, _ := impl.NamePlaces(few, 16, names)
	if !slices.Equal(want, []int{16, 23}) {
		t.Fatalf("%q are at %v", names, want)
	}
	for _, o := range []impl.Object{{}, {Sections: []impl.Section{}, Symbols: []impl.Symbol{}}, symbolsOf(fixedSymbols(12)...), symbolsOf(impl.Symbol{Name: "puts", Bind: weak, Where: fixed, Value: 1}, impl.Symbol{Name: "main", Bind: strong, Where: none}), sectionsOf(blankSection(1))} {
		for first := range 3 {
			for second := range 3 {
				with := slices.Concat(few[:first], []impl.Object{o}, few[first:])
				checkMeant(t, "one object more", with, 16, namesOfAll(with)...)
				checkNamesAt(t, "one object more", with, 16, names, want...)
				with = slices.Insert(with, second, o)
				checkMeant(t, "two objects more", with, 16, namesOfAll(with)...)
			}
		}
	}
}

// TestOrdersOfNames asks for names in every order, some of them twice.
func TestOrdersOfNames(t *testing.T) {
	list := spreadObjects(4, impl.Symbol{Bind: strong, Where: fixed})
	places := map[string]int{}
	for k, o := range apart(list...) {
		list[k] = o
		for j, s := range o.Symbols {
			places[s.Name] = 10000 + 1000*k + j
		}
	}
	// What stands in these lists are numbers of symbols, object by object.
	for _, symbols := range [][]int{nil, {0}, {0, 0}, {47, 47}, {0, 1}, {0, 47, 17}, {5, 5, 5}, {13, 26, 13, 47}, {0, 12, 24, 36, 11}, {1, 2, 3, 1, 2, 47}} {
		var names []string
		for _, i := range symbols {
			names = append(names, list[i/12].Symbols[i%12].Name)
		}
		for _, order := range ordersOf(names) {
			var want []int
			for _, name := range order {
				want = append(want, places[name])
			}
			checkNamesAt(t, "an order", list, 8, order, want...)
			for at := range len(order) + 1 {
				for _, lost := range []string{"lost", "", "p"} {
					checkNamesNowhere(t, "with a name that is not given", list, 8, slices.Insert(slices.Clone(order), at, lost)...)
				}
			}
		}
	}
}

// TestManyNamesHavePlaces asks for more names than there are.
func TestManyNamesHavePlaces(t *testing.T) {
	list := apart(spreadObjects(4, impl.Symbol{Bind: weak, Where: fixed})...)
	var names []string
	var want []int
	for i := range 5000 {
		k, j := i*7%4, i*5%12
		names, want = append(names, list[k].Symbols[j].Name), append(want, 10000+1000*k+j)
	}
	checkNamesAt(t, "many names", list, 8, names, want...)
	for _, at := range []int{0, 1, 2500, 4999} {
		wrong := slices.Clone(names)
		wrong[at] = "lost"
		checkNamesNowhere(t, "many names, and one that is not given", list, 8, wrong...)
	}
	checkNamesNowhere(t, "many names, and one behind that is not given", list, 8, append(slices.Clone(names), "lost")...)
}

// TestTextsThatAreNoNamesHaveNoPlaces asks for texts that no symbol has.
func TestTextsThatAreNoNamesHaveNoPlaces(t *testing.T) {
	list := []impl.Object{oneObject(), someObjects()[12], {Sections: manySections(2), Symbols: []impl.Symbol{{Name: "here", Where: 1}, {Name: "soft", Bind: weak, Where: none}}}}
	texts := append(wrongNames(), "code", "lib", "buf", "here", "soft")
	for _, name := range []string{"main", "puts"} {
		texts = append(texts, nearNames(name)...)
	}
	for _, text := range texts {
		checkNamesNowhere(t, "no name", list, 16, text)
		checkNamesNowhere(t, "no name first", list, 16, text, "main", "puts")
		checkNamesNowhere(t, "no name between", list, 16, "main", text, "puts")
		checkNamesNowhere(t, "no name last", list, 16, "main", "puts", text)
		checkNamesNowhere(t, "no names alone", list, 16, text, text)
		checkNamesNowhere(t, "no objects", nil, 16, text)
	}
	checkNamesAt(t, "names", list, 16, []string{"main", "puts"}, 16, 23)
}

// TestMissingNamesDoNotMatterToOthers asks for names beside such that are missing or given twice.
func TestMissingNamesDoNotMatterToOthers(t *testing.T) {
	list := []impl.Object{oneObject(), symbolsOf(impl.Symbol{Name: "x", Bind: strong, Where: fixed, Value: 3}), symbolsOf(impl.Symbol{Name: "x", Bind: strong, Where: fixed, Value: 4})}
	if len(impl.NamesTwice(list)) != 1 || len(impl.NamesMissing(list)) != 1 {
		t.Error("no name is given twice, or none is missing")
	}
	checkNamesAt(t, "names", list, 8, []string{"x", "main"}, 3, 8)
	for k, places := range [][]int{{8, -1}, {3}, {3}} {
		for j, n := range places {
			checkMeantAt(t, "a missing name beside", list, 8, k, j, max(n, 0), n >= 0)
		}
	}
}

// TestWrongObjectsMeanNothing puts an object that is not valid at every place among valid ones.
func TestWrongObjectsMeanNothing(t *testing.T) {
	beside := symbolsOf(impl.Symbol{Name: "give", Bind: strong, Where: fixed}, impl.Symbol{Name: "want", Bind: weak, Where: none}, impl.Symbol{Name: "here", Where: fixed})
	for what, o := range notValidObjects() {
		checkMeansNothing(t, what, 8, o)
		for many := 1; many <= 3; many++ {
			for at := range many + 1 {
				checkMeansNothing(t, fmt.Sprintf("%s at %d of %d", what, at, many+1), 8, slices.Insert(slices.Repeat([]impl.Object{beside}, many), at, o)...)
			}
		}
		checkMeansNothing(t, what+" four times, from a wrong base on", 4, o, o, o, o)
	}
}

// TestPlacesOfNamesHaveTheirOwnMemory changes what the functions return, and what they were given.
func TestPlacesOfNamesHaveTheirOwnMemory(t *testing.T) {
	for _, given := range append(someLists()[:600], spreadObjects(4, impl.Symbol{Bind: strong, Where: 0})) {
		list := roomyList(given)
		names := make([]string, 0, 60)
		for _, o := range given {
			names = append(names, impl.NamesGiven(o)...)
		}
		asked := slices.Clone(names)
		var want []int
		for _, name := range names {
			n, _ := namePlaceOf(given, placedOf(given, 8).places, name)
			want = append(want, n)
		}
		first, _ := impl.NamePlaces(list, 8, names)
		second, _ := impl.NamePlaces(list, 8, names)
		fillUp(first, 77)
		if !slices.Equal(second, want) {
			t.Errorf("the results for %v share memory", given)
		}
		checkMeant(t, "own memory", list, 8, names...)
		checkLeftAlone(t, list, given)
		spoilList(list)
		if behind := names[len(names):cap(names)]; !slices.Equal(names, asked) || !reflect.DeepEqual(behind, make([]string, len(behind))) {
			t.Errorf("the names %q were changed to %q", asked, names[:cap(names)])
		}
		fillUp(names, "spoiled")
		if !slices.Equal(second, want) {
			t.Errorf("the places %v of %q change with the objects %v", second, asked, given)
		}
	}
}

// TestWhatStandsBehindTheLengthMeansNothing says that lists of objects, of symbols and of names end with their length.
func TestWhatStandsBehindTheLengthMeansNothing(t *testing.T) {
	list := apart(spreadObjects(4, impl.Symbol{Bind: strong, Where: fixed})...)
	list = append(list, symbolsOf(impl.Symbol{Name: "s", Where: none}), list[0])
	for many := range 5 {
		for k, o := range list {
			for j, s := range o.Symbols {
				if k < many {
					checkMeantAt(t, "behind the length", list[:many], 8, k, j, 10000+1000*k+j, true)
					checkNamesAt(t, "behind the length", list[:many], 8, []string{s.Name}, 10000+1000*k+j)
				} else {
					checkMeantAt(t, "behind the length", list[:many], 8, k, j, 0, false)
					if k < 4 {
						checkNamesNowhere(t, "behind the length", list[:many], 8, s.Name)
					}
				}
			}
		}
	}
	checkMeansNothing(t, "all of them", 8, list...)
	for many := range 13 {
		o := symbolsOf(fixedSymbols(12)[:many]...)
		names := manyNames(12, "f")
		for j, name := range names {
			if j < many {
				checkMeantAt(t, "a symbol", []impl.Object{o}, 8, 0, j, j, true)
				checkNamesAt(t, "a symbol", []impl.Object{o}, 8, []string{name}, j)
			} else {
				checkMeantAt(t, "a symbol behind the length", []impl.Object{o}, 8, 0, j, 0, false)
				checkNamesNowhere(t, "a symbol behind the length", []impl.Object{o}, 8, name)
			}
		}
		checkNamesAt(t, "names with others behind them", []impl.Object{o}, 8, names[:many], numbersUpTo(0, many-1)...)
	}
}

// TestMeaningDoesNotRemember calls the functions with one list and another one, in turn.
func TestMeaningDoesNotRemember(t *testing.T) {
	lists := someLists()[:120]
	for range 2 {
		for i, list := range lists {
			checkMeant(t, "in turn", list, 4096, namesOfAll(list)...)
			checkMeansNothing(t, "five objects", 0, make([]impl.Object, 5)...)
			other := lists[len(lists)-1-i]
			checkMeant(t, "in turn", other, 0, namesOfAll(list)...)
			checkMeansNothing(t, "a wrong base", 4100, list...)
			checkMeant(t, "in turn", list, 8, namesOfAll(other)...)
		}
	}
}
