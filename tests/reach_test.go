package tests

import (
	"fmt"
	"math"
	"reflect"
	"slices"
	"strings"
	"testing"

	"loop.example/objectlinker/impl"
)

// leadsOf tells for two sections of a valid object whether the first one leads to the second one, over others or directly, or is it.
func leadsOf(o impl.Object) [8][8]bool {
	var leads [8][8]bool
	for i, s := range o.Sections {
		leads[i][i] = true
		for _, f := range s.Fixups {
			if to := o.Symbols[f.To].Where; to != none && to != fixed {
				leads[i][to] = true
			}
		}
	}
	for over := range leads {
		for from := range leads {
			for to := range leads {
				leads[from][to] = leads[from][to] || leads[from][over] && leads[over][to]
			}
		}
	}
	return leads
}

// reachedOf returns the sections of a valid object that are reached, as the document tells it, without a queue.
func reachedOf(o impl.Object, names []string) []int {
	leads := leadsOf(o)
	reached := map[int]bool{}
	for _, s := range o.Symbols {
		if s.Bind == local || s.Where == none || s.Where == fixed || !slices.Contains(names, s.Name) {
			continue
		}
		for k := range o.Sections {
			reached[k] = reached[k] || leads[s.Where][k]
		}
	}
	var list []int
	for k := range o.Sections {
		if reached[k] {
			list = append(list, k)
		}
	}
	return list
}

// keptOf keeps sections of a valid object as the document tells it, by maps of the old numbers.
func keptOf(o impl.Object, list []int) (impl.Object, bool) {
	var x impl.Object
	sections, symbols := map[int]int{none: none, fixed: fixed}, map[int]int{}
	for k, s := range o.Sections {
		if slices.Contains(list, k) {
			sections[k] = len(x.Sections)
			x.Sections = append(x.Sections, cloneSection(s))
		}
	}
	for k, s := range o.Symbols {
		if to, ok := sections[s.Where]; ok {
			symbols[k] = len(x.Symbols)
			s.Where = to
			x.Symbols = append(x.Symbols, s)
		}
	}
	for _, s := range x.Sections {
		for i, f := range s.Fixups {
			to, ok := symbols[f.To]
			if !ok {
				return impl.Object{}, false
			}
			s.Fixups[i].To = to
		}
	}
	return x, true
}

// checkReached holds which sections of a valid object are reached against what should be.
func checkReached(t *testing.T, o impl.Object, names ...string) {
	t.Helper()
	if x, want := impl.ReachSections(o, names), reachedOf(o, names); !slices.Equal(x, want) {
		t.Errorf("from the names %q the sections %v of %v are reached, not %v", names, x, o, want)
	}
}

// checkKept holds what is kept of a valid object against what should be.
func checkKept(t *testing.T, o impl.Object, list ...int) {
	t.Helper()
	want, ok := keptOf(o, list)
	x, good := impl.KeepSections(o, list)
	if good != ok || ok && (!sameObject(x, want) || !impl.ObjectValid(x)) || !ok && !reflect.DeepEqual(x, impl.Object{}) {
		t.Errorf("of %v with the sections %v %v, %v is kept, not %v, %v", o, list, x, good, want, ok)
	}
}

// checkKeptIs says what is kept of a valid object.
func checkKeptIs(t *testing.T, what string, o impl.Object, list []int, want impl.Object) {
	t.Helper()
	if x, ok := impl.KeepSections(o, list); !ok || !sameObject(x, want) {
		t.Errorf("%s: of %v with the sections %v %v, %v is kept, not %v", what, o, list, x, ok, want)
	}
}

// checkNotKept says that of an object nothing is kept.
func checkNotKept(t *testing.T, what string, o impl.Object, list ...int) {
	t.Helper()
	if x, ok := impl.KeepSections(o, list); ok || !reflect.DeepEqual(x, impl.Object{}) {
		t.Errorf("%s: of %v with the sections %v %v, %v is kept", what, o, list, x, ok)
	}
}

// checkNoReach says that an object is not valid, and that both functions return their one result for it.
func checkNoReach(t *testing.T, what string, o impl.Object) {
	t.Helper()
	was := cloneObject(o)
	if impl.ObjectValid(o) {
		t.Errorf("%s: %v is valid", what, o)
	}
	for _, names := range [][]string{nil, {}, {"give", "want", "s"}, namesIn(o), wrongNames()} {
		if x := impl.ReachSections(o, names); x != nil {
			t.Errorf("%s: from %q %v of %v are reached", what, names, x, o)
		}
	}
	for _, list := range [][]int{nil, {}, {0}, {0, 1, 2, 3, 4, 5, 6, 7}, {8, 7, 1, 0, -1}, numbersUpTo(0, len(o.Sections))} {
		checkNotKept(t, what, o, list...)
	}
	if !sameObject(o, was) {
		t.Errorf("%s: %v was changed to %v", what, was, o)
	}
}

// sectionNames are the names of the symbols by which the sections of a graph object are reached.
func sectionNames(many int) []string { return manyNames(many, "n") }

// graphObject returns an object with a symbol for every section, strong or weak, and a fixup for every pair of sections, from the first one to the symbol of the second one.
func graphObject(many int, pairs ...[2]int) impl.Object {
	var o impl.Object
	for k, name := range sectionNames(many) {
		o.Sections = append(o.Sections, impl.Section{Name: "s" + name, Kind: impl.SectionCode + k%2, Align: 1 << (k % 4), Bytes: bytesFrom(16*k, 6+k)})
		o.Symbols = append(o.Symbols, impl.Symbol{Name: name, Bind: strong + k%2, Where: k, Value: k})
	}
	for _, pair := range pairs {
		s := &o.Sections[pair[0]]
		s.Fixups = append(s.Fixups, impl.Fixup{At: len(s.Fixups), Kind: impl.FixupNear, To: pair[1], Add: pair[0] - 10*pair[1]})
	}
	return o
}

// pairsIn returns those pairs of many sections whose bits are in a mask.
func pairsIn(mask, many int) [][2]int {
	var pairs [][2]int
	for _, bit := range numbersIn(mask, many*many) {
		pairs = append(pairs, [2]int{bit / many, bit % many})
	}
	return pairs
}

// chainPairs returns the pairs that lead from each of some sections to the next one.
func chainPairs(sections ...int) [][2]int {
	var pairs [][2]int
	for i := 1; i < len(sections); i++ {
		pairs = append(pairs, [2]int{sections[i-1], sections[i]})
	}
	return pairs
}

// someOrders are orders of the numbers below many.
func someOrders(many int) [][]int {
	up := numbersUpTo(0, many-1)
	down := slices.Clone(up)
	slices.Reverse(down)
	list := [][]int{up, down}
	// Steps that have no divisor in common with many come to each number once.
	for step := 2; step < many; step++ {
		var order []int
		for i := range many {
			order = append(order, (3+i*step)%many)
		}
		if sorted := slices.Sorted(slices.Values(order)); slices.Equal(sorted, up) {
			list = append(list, order)
		}
	}
	return list
}

// reachNames are lists of names, some of an object, some not, and some that are no names.
func reachNames(o impl.Object) [][]string {
	lists := keepLists(o)
	for i, s := range o.Symbols {
		lists = append(lists, []string{s.Name, o.Symbols[0].Name}, []string{o.Symbols[len(o.Symbols)-1-i].Name, "", s.Name})
	}
	return lists
}

// numberLists are lists of numbers, some of sections of an object, and some of none.
func numberLists(o impl.Object) [][]int {
	many := len(o.Sections)
	all := numbersUpTo(0, many-1)
	lists := [][]int{nil, {}, {-1}, {-2}, {-3}, {many}, {8, 9, 100}, all, slices.Concat(all, all), farInts, slices.Concat(farInts, all, []int{-1, -2, many}), slices.Repeat([]int{0}, 1000), numbersUpTo(-300, 300)}
	for i := range all {
		lists = append(lists, all[:i], all[i:], []int{i}, []int{i, i}, []int{many - 1 - i, i}, []int{-i, i - many, i + many}, slices.Delete(slices.Clone(all), i, i+1), []int{i + 256, i - 256, i + 1<<32, i | math.MinInt})
	}
	for _, order := range someOrders(many) {
		lists = append(lists, order, order[:many/2], slices.Concat(order[many/2:], order[many/2:]))
	}
	return lists
}

// Promise 6: reached sections are enough.
func TestPromise6(t *testing.T) {
	for _, o := range dumpedObjects() {
		for _, names := range keepLists(o) {
			reached := impl.ReachSections(o, names)
			x, ok := impl.KeepSections(o, reached)
			if !ok || len(x.Sections) != len(reached) || !impl.ObjectValid(x) {
				t.Errorf("from %q %v of %v are reached, of which %v, %v is kept", names, reached, o, x, ok)
			}
			// All that is kept is reached there.
			if again := impl.ReachSections(x, names); len(again) != len(reached) {
				t.Errorf("from %q %v of %v are reached, and %v of %v", names, reached, o, again, x)
			}
			for _, more := range []string{"a", "main", "other", ""} {
				with := impl.ReachSections(o, append(slices.Clone(names), more))
				for _, k := range reached {
					if !slices.Contains(with, k) {
						t.Errorf("from %q %v of %v are reached, and with %q %v", names, reached, o, more, with)
					}
				}
			}
		}
	}
}

// TestPromise6OfGraphs looks at all ways in which three sections may reach each other, and many of four.
func TestPromise6OfGraphs(t *testing.T) {
	for many := range 5 {
		step := 1
		if many == 4 {
			step = 7
		}
		names := sectionNames(many)
		for mask := 0; mask < 1<<(many*many); mask += step {
			o := graphObject(many, pairsIn(mask, many)...)
			for roots := range 1 << many {
				var from []string
				for _, k := range numbersIn(roots, many) {
					from = append(from, names[k])
				}
				checkReached(t, o, from...)
				reached := impl.ReachSections(o, from)
				checkKept(t, o, reached...)
				if _, ok := impl.KeepSections(o, reached); !ok {
					t.Errorf("from %q %v of %v are reached, which cannot be kept", from, reached, o)
				}
				checkKept(t, o, numbersIn(roots, many)...)
			}
		}
	}
}

// Promise 50: kept sections are sections.
func TestPromise50(t *testing.T) {
	for _, o := range dumpedObjects() {
		for _, list := range numberLists(o) {
			x, ok := impl.KeepSections(o, list)
			different := 0
			for k := range o.Sections {
				if slices.Contains(list, k) {
					different++
				}
			}
			if ok && (len(x.Sections) != different || !impl.ObjectValid(x)) || !ok && different == len(o.Sections) {
				t.Errorf("of %v with the sections %v %v, %v is kept", o, list, x, ok)
			}
			if different == len(o.Sections) && !sameObject(x, o) {
				t.Errorf("with all its sections %v becomes %v", o, x)
			}
		}
	}
}

func TestSectionsAreReached(t *testing.T) {
	for _, o := range fewObjects() {
		for _, names := range reachNames(o) {
			checkReached(t, o, names...)
		}
	}
}

func TestSectionsAreKept(t *testing.T) {
	for _, o := range dumpedObjects() {
		for _, list := range numberLists(o) {
			checkKept(t, o, list...)
		}
	}
}

// TestEverySetOfSectionsIsKept looks at every set of sections that may be kept.
func TestEverySetOfSectionsIsKept(t *testing.T) {
	list := append(edgeObjects(), greatestObject(), graphObject(8), graphObject(8, chainPairs(0, 1, 2, 3, 4, 5, 6, 7)...), graphObject(8, chainPairs(6, 3, 6, 1, 1, 0)...))
	for n := range 300 {
		list = append(list, mixedObject(n))
	}
	for _, o := range list {
		for mask := range 1 << len(o.Sections) {
			numbers := numbersIn(mask, len(o.Sections))
			checkKept(t, o, numbers...)
			slices.Reverse(numbers)
			checkKept(t, o, numbers...)
		}
	}
}

// reachedLines are the lines of an object, which sections of it are reached from names, and which lines are kept of it.
type reachedLines struct {
	what    string
	lines   []string
	names   []string
	reached []int
	list    []int
	kept    []string
}

// toldReach are objects whose sections that are reached are told.
func toldReach() []reachedLines {
	three := []string{"section a 1 1 2 0102", "fixup 0 2 1 5", "section b 2 2 2 0304", "section c 3 8 9", "symbol main 1 0 1", "symbol pb 0 1 2", "symbol pc 2 2 9", "symbol ext 1 -1 0", "symbol val 2 -2 60000", "symbol loc 0 -2 7"}
	rest := []string{"symbol ext 1 -1 0", "symbol val 2 -2 60000", "symbol loc 0 -2 7"}
	turned := []string{"section d 1 1 1 01", "fixup 0 1 4 -1", "section e 1 1 1 02", "fixup 0 1 3 0", "section f 1 1 3 030405", "fixup 0 1 2 0", "fixup 1 1 0 1", "fixup 2 1 1 2",
		"symbol x 1 -2 1", "symbol y 1 -1 0", "symbol z 0 1 1", "symbol w 2 1 0", "symbol v 1 0 1", "symbol u 1 2 3"}
	return []reachedLines{
		{"nothing", nil, []string{"main"}, nil, []int{0}, nil},
		{"no names", three, nil, nil, nil, rest},
		{"main", three, []string{"main"}, []int{0, 1}, []int{0, 1}, append([]string{"section a 1 1 2 0102", "fixup 0 2 1 5", "section b 2 2 2 0304", "symbol main 1 0 1", "symbol pb 0 1 2"}, rest...)},
		{"a local name", three, []string{"pb"}, nil, []int{1}, append([]string{"section b 2 2 2 0304", "symbol pb 0 0 2"}, rest...)},
		{"a section without bytes", three, []string{"pc"}, []int{2}, []int{2}, append([]string{"section c 3 8 9", "symbol pc 2 0 9"}, rest...)},
		{"names that are in no section", three, []string{"ext", "val", "loc"}, nil, []int{-1, -2}, rest},
		{"all names", three, []string{"val", "ext", "pc", "pb", "main", "loc"}, []int{0, 1, 2}, []int{2, 1, 0}, three},
		{"names of sections", three, []string{"a", "b", "c"}, nil, []int{3}, rest},
		{"backwards", turned, []string{"u"}, []int{1, 2}, []int{2, 1}, []string{"section e 1 1 1 02", "fixup 0 1 3 0", "section f 1 1 3 030405", "fixup 0 1 2 0", "fixup 1 1 0 1", "fixup 2 1 1 2", "symbol x 1 -2 1", "symbol y 1 -1 0", "symbol z 0 0 1", "symbol w 2 0 0", "symbol u 1 1 3"}},
		{"itself", turned, []string{"v"}, []int{0}, []int{0}, []string{"section d 1 1 1 01", "fixup 0 1 2 -1", "symbol x 1 -2 1", "symbol y 1 -1 0", "symbol v 1 0 1"}},
		{"a section that another one leads to", turned, []string{"w", "z"}, []int{1}, []int{1}, []string{"section e 1 1 1 02", "fixup 0 1 3 0", "symbol x 1 -2 1", "symbol y 1 -1 0", "symbol z 0 0 1", "symbol w 2 0 0"}},
	}
}

func TestLinesOfReachedSections(t *testing.T) {
	for _, c := range toldReach() {
		o, ok := impl.ReadDump(c.lines)
		if !ok {
			t.Errorf("%s is no object", c.what)
		}
		if x := impl.ReachSections(o, c.names); !slices.Equal(x, c.reached) {
			t.Errorf("%s: %v are reached", c.what, x)
		}
		x, ok := impl.KeepSections(o, c.list)
		if lines := impl.DumpObject(x); !ok || !slices.Equal(lines, c.kept) {
			t.Errorf("%s: %q, %v is kept", c.what, lines, ok)
		}
	}
}

func TestObjectsWithoutSomething(t *testing.T) {
	for _, o := range []impl.Object{{}, {Sections: []impl.Section{}, Symbols: []impl.Symbol{}}, symbolsOf(fixedSymbols(12)...), symbolsOf(impl.Symbol{Name: "a", Bind: strong, Where: none}, impl.Symbol{Name: "b", Where: fixed})} {
		for _, names := range reachNames(o) {
			if x := impl.ReachSections(o, names); len(x) != 0 {
				t.Errorf("from %q %v of %v are reached", names, x, o)
			}
		}
		for _, list := range numberLists(o) {
			checkKeptIs(t, "without sections", o, list, o)
		}
	}
	for many := range 9 {
		o := impl.Object{Sections: manySections(many)}
		for _, names := range [][]string{nil, {"a"}, {"buf", "code"}, wrongNames()} {
			if x := impl.ReachSections(o, names); len(x) != 0 {
				t.Errorf("from %q %v of %v are reached", names, x, o)
			}
		}
		for mask := range 1 << many {
			var want impl.Object
			for _, k := range numbersIn(mask, many) {
				want.Sections = append(want.Sections, o.Sections[k])
			}
			checkKeptIs(t, "without symbols", o, numbersIn(mask, many), want)
		}
		// Without fixups a symbol reaches its own section alone.
		o = graphObject(many)
		for k, name := range sectionNames(many) {
			if x := impl.ReachSections(o, []string{name}); !slices.Equal(x, []int{k}) {
				t.Errorf("from %q %v of %v are reached", name, x, o)
			}
			s := o.Symbols[k]
			s.Where = 0
			checkKeptIs(t, "without fixups", o, []int{k}, impl.Object{Sections: o.Sections[k : k+1], Symbols: []impl.Symbol{s}})
		}
	}
}

func TestChainsOfSections(t *testing.T) {
	for many := 1; many <= 8; many++ {
		for _, order := range someOrders(many) {
			o := graphObject(many, chainPairs(order...)...)
			for i, k := range order {
				want := slices.Sorted(slices.Values(order[i:]))
				if x := impl.ReachSections(o, sectionNames(many)[k:k+1]); !slices.Equal(x, want) {
					t.Errorf("from the section %d %v of the chain %v are reached", k, x, order)
				}
				checkKept(t, o, want...)
				if _, ok := impl.KeepSections(o, want); !ok {
					t.Errorf("the end %v of the chain %v cannot be kept", want, order)
				}
				if i > 0 {
					checkNotKept(t, "a chain that is cut", o, order[:i]...)
					checkNotKept(t, "one section of a chain", o, order[i-1])
				}
			}
		}
	}
}

func TestCirclesOfSections(t *testing.T) {
	for many := 1; many <= 8; many++ {
		all := numbersUpTo(0, many-1)
		for _, order := range someOrders(many) {
			o := graphObject(many, chainPairs(append(order, order[0])...)...)
			for k, name := range sectionNames(many) {
				if x := impl.ReachSections(o, []string{name}); !slices.Equal(x, all) {
					t.Errorf("from the section %d %v of the circle %v are reached", k, x, order)
				}
				if many > 1 {
					checkNotKept(t, "one section of a circle", o, k)
					checkNotKept(t, "a circle without one section", o, slices.Delete(slices.Clone(all), k, k+1)...)
				}
			}
			checkKeptIs(t, "a circle", o, order, o)
			checkKeptIs(t, "no section of a circle", o, nil, impl.Object{})
		}
	}
}

// TestSectionsBesideCircles has two circles of all sizes, of which one leads to the other one, or none does.
func TestSectionsBesideCircles(t *testing.T) {
	for first := 1; first <= 7; first++ {
		for second := 1; first+second <= 8; second++ {
			many := first + second
			one, two := numbersUpTo(0, first-1), numbersUpTo(first, many-1)
			apart := append(chainPairs(append(one, 0)...), chainPairs(append(two, first)...)...)
			joined := append(slices.Clone(apart), [2]int{first - 1, many - 1})
			for k, name := range sectionNames(many) {
				want, both := one, numbersUpTo(0, many-1)
				if k >= first {
					want, both = two, two
				}
				if x := impl.ReachSections(graphObject(many, apart...), []string{name}); !slices.Equal(x, want) {
					t.Errorf("from the section %d %v of %v are reached", k, x, apart)
				}
				if x := impl.ReachSections(graphObject(many, joined...), []string{name}); !slices.Equal(x, both) {
					t.Errorf("from the section %d %v of %v are reached", k, x, joined)
				}
			}
			checkKept(t, graphObject(many, apart...), one...)
			checkKept(t, graphObject(many, apart...), two...)
			checkNotKept(t, "a circle that leads to another one", graphObject(many, joined...), one...)
			checkKept(t, graphObject(many, joined...), two...)
		}
	}
}

// lastObject returns an object whose sections use symbols that are in no section, and with the last of their fixups alone one that is: the section k that of k+2, and the last two main, the last symbol.
func lastObject(fixups int) impl.Object {
	var o impl.Object
	for k := range 8 {
		s := impl.Section{Name: "code", Kind: impl.SectionCode, Align: 1, Bytes: bytesFrom(k, 48)}
		for i := range fixups {
			s.Fixups = append(s.Fixups, impl.Fixup{At: 8 * i, Kind: 1 + (i+k)%3, To: i % 3, Add: i})
		}
		s.Fixups[fixups-1].To = min(5+k, 11)
		o.Sections = append(o.Sections, s)
	}
	o.Symbols = []impl.Symbol{{Name: "w", Bind: weak, Where: none}, {Name: "f", Bind: strong, Where: fixed}, {Name: "l", Where: fixed, Value: 9}}
	for k, name := range sectionNames(8) {
		o.Symbols = append(o.Symbols, impl.Symbol{Name: name, Where: k})
	}
	o.Symbols = append(o.Symbols, impl.Symbol{Name: "main", Bind: strong, Where: 0, Value: 48})
	return o
}

func TestLastFixupsAndLastSymbolsReach(t *testing.T) {
	for fixups := 1; fixups <= 6; fixups++ {
		o := lastObject(fixups)
		for k := range 8 {
			o.Symbols[11].Where = k
			want := []int{k}
			for to := k + 2; to <= 7; to += 2 {
				want = append(want, to)
			}
			if x := impl.ReachSections(o, []string{"main"}); !slices.Equal(x, want) {
				t.Errorf("with %d fixups %v are reached from the section %d of %v", fixups, x, k, o)
			}
			checkReached(t, o, "w", "f", "l", "main")
			checkKept(t, o, want...)
			if k < 6 {
				checkNotKept(t, "without the section of main, which the last one leads to", o, want[1:]...)
			}
		}
	}
}

// TestEachFixupReaches has one fixup after the other, of each kind, be the only one that leads to another section.
func TestEachFixupReaches(t *testing.T) {
	for at := range 6 {
		for to := range 8 {
			for kind := impl.FixupNear; kind <= impl.FixupLong; kind++ {
				for _, bind := range []int{local, strong, weak} {
					o := impl.Object{Sections: manySections(8), Symbols: fixedSymbols(12)}
					o.Sections[1] = filledSection(48, fixupsOf(kind, 0, 8, 16, 24, 32, 40)...)
					o.Sections[1].Fixups[at].To = 11
					o.Symbols[3] = impl.Symbol{Name: "main", Bind: weak, Where: 1}
					o.Symbols[11] = impl.Symbol{Name: "leads", Bind: bind, Where: to}
					want := slices.Compact(slices.Sorted(slices.Values([]int{1, to})))
					if x := impl.ReachSections(o, []string{"main"}); !slices.Equal(x, want) {
						t.Errorf("the fixup %d of kind %d leads to %v in %v", at, kind, x, o)
					}
					checkKept(t, o, want...)
					if to != 1 {
						checkNotKept(t, "without what a fixup uses", o, 1)
					}
				}
			}
		}
	}
}

// TestEachSymbolReaches has one symbol after the other be the only one in a section, with every binding.
func TestEachSymbolReaches(t *testing.T) {
	for many := 1; many <= 12; many++ {
		for k := range many {
			for where := range 8 {
				for _, bind := range []int{local, strong, weak} {
					o := impl.Object{Sections: manySections(8), Symbols: fixedSymbols(many)}
					o.Symbols[k] = impl.Symbol{Name: o.Symbols[k].Name, Bind: bind, Where: where, Value: where}
					want := []int{where}
					if bind == local {
						want = nil
					}
					for _, names := range [][]string{{o.Symbols[k].Name}, {"", o.Symbols[k].Name, o.Symbols[k].Name}, manyNames(12, "f"), append(manyNames(5000, "x"), manyNames(12, "f")...)} {
						if x := impl.ReachSections(o, names); !slices.Equal(x, want) {
							t.Errorf("from %q %v of %v are reached", names, x, o)
						}
					}
					for _, names := range [][]string{nil, {}, {"other"}, wrongNames(), slices.Delete(manyNames(12, "f"), k, k+1)} {
						if x := impl.ReachSections(o, names); len(x) != 0 {
							t.Errorf("from %q %v of %v are reached", names, x, o)
						}
					}
				}
			}
		}
	}
}

func TestNamesNearAName(t *testing.T) {
	o := impl.Object{Sections: []impl.Section{filledSection(1)}, Symbols: []impl.Symbol{{Name: "main", Bind: strong}}}
	for _, name := range []string{"", "m", "mai", "ain", "main ", " main", "main\x00", "Main", "MAIN", "main1", "mainmain", "code", "\x00main", "n", "0"} {
		if x := impl.ReachSections(o, []string{name}); len(x) != 0 {
			t.Errorf("from %q %v are reached", name, x)
		}
	}
	for _, names := range [][]string{{"main"}, {"main", "main"}, {"", "main"}, {"main", "no name"}, append(wrongNames(), "main"), append([]string{"main"}, wrongNames()...), {strings.Repeat("main", 1000), "main"}} {
		if x := impl.ReachSections(o, names); !slices.Equal(x, []int{0}) {
			t.Errorf("from %q %v are reached", names, x)
		}
	}
}

// TestLocalSymbolsHaveTheSameName says that a local symbol reaches nothing by its name, though another one with this name does.
func TestLocalSymbolsHaveTheSameName(t *testing.T) {
	for open := range 12 {
		for _, where := range []int{none, fixed, 0, 1, 7} {
			o := impl.Object{Sections: manySections(8)}
			for k := range 12 {
				o.Symbols = append(o.Symbols, impl.Symbol{Name: "same", Where: k % 8})
			}
			o.Symbols[open] = impl.Symbol{Name: "same", Bind: strong + open%2, Where: where}
			var want []int
			if where >= 0 {
				want = []int{where}
			}
			if x := impl.ReachSections(o, []string{"same", "same"}); !slices.Equal(x, want) {
				t.Errorf("%v of %v are reached", x, o)
			}
		}
	}
	if x := impl.ReachSections(sameNamesObject(), []string{"same"}); !slices.Equal(x, []int{5}) {
		t.Errorf("%v of %v are reached", x, sameNamesObject())
	}
	// A fixup leads to its own symbol, and not to the one that others see by this name.
	o := graphObject(3, [2]int{0, 3})
	o.Symbols = append(o.Symbols, impl.Symbol{Name: "n1", Where: 2})
	if x := impl.ReachSections(o, []string{"n0"}); !slices.Equal(x, []int{0, 2}) {
		t.Errorf("%v of %v are reached", x, o)
	}
	checkNotKept(t, "the other section with this name", o, 0, 1)
	checkKept(t, o, 0, 2)
}

// TestSymbolsInNoSectionReachNothing has reached sections use symbols that are in none.
func TestSymbolsInNoSectionReachNothing(t *testing.T) {
	for _, s := range []impl.Symbol{{Bind: strong, Where: none}, {Bind: weak, Where: none}, {Where: fixed, Value: 1}, {Bind: strong, Where: fixed, Value: 60000}, {Bind: weak, Where: fixed}} {
		for many := 1; many <= 8; many++ {
			o := graphObject(many)
			for k := range 4 {
				s.Name = manyNames(4, "x")[k]
				o.Symbols = append(o.Symbols, s)
			}
			for k := range many {
				for i := range 6 {
					o.Sections[k].Fixups = append(o.Sections[k].Fixups, impl.Fixup{At: i, Kind: impl.FixupNear, To: many + i%4})
				}
			}
			for k, name := range sectionNames(many) {
				if x := impl.ReachSections(o, []string{name, "x0", "x1", "x2", "x3"}); !slices.Equal(x, []int{k}) {
					t.Errorf("from %q %v of %v are reached", name, x, o)
				}
				x, ok := impl.KeepSections(o, []int{k})
				if !ok || len(x.Symbols) != 5 || x.Symbols[0].Where != 0 || !slices.Equal(x.Symbols[1:], o.Symbols[many:]) {
					t.Errorf("of %v with the section %d %v, %v is kept", o, k, x, ok)
				}
				for i, f := range x.Sections[0].Fixups {
					if f.To != 1+i%4 {
						t.Errorf("of %v with the section %d %v is kept", o, k, x)
					}
				}
			}
			checkKeptIs(t, "no section", o, []int{-1, -2, many}, symbolsOf(o.Symbols[many:]...))
			checkKeptIs(t, "all sections", o, numbersUpTo(-2, many), o)
		}
	}
}

func TestSeveralFixupsLeadToOneSection(t *testing.T) {
	for many := 2; many <= 8; many++ {
		for to := range many {
			o := graphObject(many)
			// Twelve symbols of one section or another: all that are behind the first ones are in one.
			for k := many; k < 12; k++ {
				o.Symbols = append(o.Symbols, impl.Symbol{Name: "in", Where: to, Value: k % 6})
			}
			for k := range many {
				for i := range 6 {
					o.Sections[k].Fixups = append(o.Sections[k].Fixups, impl.Fixup{At: i, Kind: impl.FixupNear, To: max(many, 11-i-k%3)})
				}
			}
			for k, name := range sectionNames(many) {
				want := slices.Compact(slices.Sorted(slices.Values([]int{k, to})))
				if x := impl.ReachSections(o, []string{name, name}); !slices.Equal(x, want) {
					t.Errorf("from %q %v of %v are reached", name, x, o)
				}
				checkKept(t, o, want...)
				if k != to {
					checkNotKept(t, "without the section that all use", o, k)
				}
			}
		}
	}
}

func TestGreatObjectsAreReached(t *testing.T) {
	o := greatestObject()
	for turn := range 12 {
		for i := range o.Sections {
			for k := range o.Sections[i].Fixups {
				o.Sections[i].Fixups[k].To = (i*turn + k) % 12
			}
		}
		for k, s := range o.Symbols {
			checkReached(t, o, s.Name)
			checkReached(t, o, s.Name, o.Symbols[(k+turn)%12].Name)
		}
		for mask := range 256 {
			checkKept(t, o, numbersIn(mask, 8)...)
		}
	}
}

// TestEverySetOfSymbolsIsInKeptSections puts each of twelve symbols in the section that stays or in the one that goes.
func TestEverySetOfSymbolsIsInKeptSections(t *testing.T) {
	for many := range 13 {
		for mask := range 1 << many {
			o := impl.Object{Sections: []impl.Section{filledSection(8), filledSection(12)}}
			var stay []impl.Symbol
			for k, name := range manyNames(many, "k") {
				s := impl.Symbol{Name: name, Bind: k % 3, Value: k % 8}
				if mask&(1<<k) != 0 {
					o.Sections[1].Fixups = append(o.Sections[1].Fixups, impl.Fixup{At: len(o.Sections[1].Fixups), Kind: impl.FixupNear, To: k})
					o.Sections[1].Fixups = o.Sections[1].Fixups[:min(6, len(o.Sections[1].Fixups))]
					stay = append(stay, s)
					s.Where = 1
				}
				o.Symbols = append(o.Symbols, s)
			}
			x, ok := impl.KeepSections(o, []int{1})
			if !ok || !slices.Equal(x.Symbols, stay) {
				t.Errorf("of %v %v, %v is kept", o, x, ok)
				continue
			}
			for i, f := range x.Sections[0].Fixups {
				if f.To != i {
					t.Errorf("of %v %v is kept", o, x)
				}
			}
			// With a fixup to one that goes nothing is kept.
			for k := range many {
				if mask&(1<<k) == 0 && len(o.Sections[1].Fixups) > 0 {
					fixups := slices.Clone(o.Sections[1].Fixups)
					fixups[len(fixups)-1].To = k
					checkNotKept(t, "a fixup to a symbol that goes", impl.Object{Sections: []impl.Section{o.Sections[0], filledSection(12, fixups...)}, Symbols: o.Symbols}, 1)
				}
			}
		}
	}
}

// TestFixupsOfSectionsThatGoDoNotMatter says that only fixups of kept sections are looked at.
func TestFixupsOfSectionsThatGoDoNotMatter(t *testing.T) {
	for goes := range 8 {
		stay := slices.Delete(numbersUpTo(0, 7), goes, goes+1)
		for to := range 8 {
			o := graphObject(8, [2]int{goes, to})
			if x, ok := impl.KeepSections(o, stay); !ok || len(x.Sections) != 7 || len(x.Symbols) != 7 {
				t.Errorf("of %v with the sections %v %v, %v is kept", o, stay, x, ok)
			}
			checkKept(t, o, stay...)
			if to != goes {
				checkNotKept(t, "a fixup to a section that goes", graphObject(8, [2]int{to, goes}), stay...)
			}
		}
	}
}

// TestListsMeanSetsOfSections says that the order of numbers, how often each comes, and numbers of no section do not matter.
func TestListsMeanSetsOfSections(t *testing.T) {
	for _, o := range []impl.Object{graphObject(8), graphObject(8, chainPairs(7, 2, 5, 2)...), greatestObject(), fullObject(), wideObject(), allKindsObject()} {
		for mask := range 1 << len(o.Sections) {
			list := numbersIn(mask, len(o.Sections))
			want, ok := impl.KeepSections(o, list)
			turned := slices.Clone(list)
			slices.Reverse(turned)
			for _, other := range [][]int{turned, slices.Concat(list, list), slices.Concat(turned, list, turned), slices.Concat(farInts, turned, []int{-1, -2, -3, -8, 8, 9, 12, 255, 256}), slices.Concat([]int{-1, len(o.Sections)}, list)} {
				if x, good := impl.KeepSections(o, other); good != ok || !sameObject(x, want) {
					t.Errorf("of %v with the sections %v %v, %v is kept, and with %v %v, %v", o, list, want, ok, other, x, good)
				}
			}
		}
	}
}

// TestTheOrderOfNamesReachesTheSame turns a list of names round and round.
func TestTheOrderOfNamesReachesTheSame(t *testing.T) {
	for _, o := range []impl.Object{graphObject(8, chainPairs(7, 2, 5, 2)...), fullObject(), greatestObject(), lastObject(6)} {
		list := append(impl.NamesGiven(o), "other", "no name")
		for many := range len(list) + 1 {
			names := slices.Clone(list[:many])
			want := reachedOf(o, names)
			for range names {
				names = slices.Concat(names[1:], names[:1])
				turned := slices.Clone(names)
				slices.Reverse(turned)
				if !slices.Equal(impl.ReachSections(o, names), want) || !slices.Equal(impl.ReachSections(o, append(turned, turned...)), want) {
					t.Errorf("the order of %q matters", names)
				}
			}
		}
	}
}

func TestOtherObjectsReachNothing(t *testing.T) {
	for what, o := range spoiledObjects() {
		checkNoReach(t, what, o)
	}
	for _, o := range append(otherObjects(), symbolsOf(make([]impl.Symbol, 1)...), sectionsOf(make([]impl.Section, 1)...)) {
		checkNoReach(t, "not valid", o)
	}
	for _, n := range farInts {
		for _, f := range []impl.Fixup{{Kind: impl.FixupNear, To: n}, {Kind: n}, {Kind: impl.FixupNear, At: n}, {Kind: impl.FixupNear, Add: n}} {
			o := graphObject(4)
			o.Sections[3].Fixups = []impl.Fixup{f}
			checkNoReach(t, "a far fixup", o)
		}
		for _, s := range []impl.Symbol{{Name: "s", Bind: n}, {Name: "s", Where: n}, {Name: "s", Value: n}, {Name: "s", Bind: strong, Where: none, Value: n}} {
			checkNoReach(t, "a far symbol", impl.Object{Sections: manySections(8), Symbols: []impl.Symbol{s}})
		}
	}
}

// TestKeepingDoesNotMakeObjectsValid says that an object is looked at as it is given, not as it would be without what goes.
func TestKeepingDoesNotMakeObjectsValid(t *testing.T) {
	for what, spoil := range map[string]func(o *impl.Object){
		"a section that goes":     func(o *impl.Object) { o.Sections[7].Align = 3 },
		"a fixup that goes":       func(o *impl.Object) { o.Sections[7].Fixups = []impl.Fixup{{At: 1, Kind: 4}} },
		"a symbol that goes":      func(o *impl.Object) { o.Symbols[7].Value = 49 },
		"a name of one that goes": func(o *impl.Object) { o.Symbols[7].Name = "n0" },
		"a section too many":      func(o *impl.Object) { o.Sections = append(o.Sections, filledSection(1)) },
		"a symbol too many": func(o *impl.Object) {
			o.Symbols = append(o.Symbols, slices.Repeat([]impl.Symbol{{Name: "l", Where: 7}}, 5)...)
		},
		"a symbol behind the last":  func(o *impl.Object) { o.Symbols[7].Where = 8 },
		"a fixup behind the last":   func(o *impl.Object) { o.Sections[7].Fixups = []impl.Fixup{{Kind: impl.FixupNear, To: 8}} },
		"a section without letters": func(o *impl.Object) { o.Sections[7].Name = "S" },
	} {
		o := graphObject(8, [2]int{0, 1})
		spoil(&o)
		checkNoReach(t, what, o)
		checkNotKept(t, what, o, 0, 1, 2, 3, 4, 5, 6)
		if x := impl.ReachSections(o, []string{"n0", "n1"}); x != nil {
			t.Errorf("%s: %v of %v are reached", what, x, o)
		}
	}
}

// TestKeptSectionsAreWhatTheyWere holds each section and fixup that is kept against the one that it was.
func TestKeptSectionsAreWhatTheyWere(t *testing.T) {
	for _, o := range dumpedObjects() {
		for _, names := range [][]string{impl.NamesGiven(o), {"a"}, {"main"}, nil} {
			list := impl.ReachSections(o, names)
			x, ok := impl.KeepSections(o, list)
			if !ok || len(x.Sections) != len(list) {
				t.Errorf("of %v with the sections %v %v, %v is kept", o, list, x, ok)
				continue
			}
			for i, s := range x.Sections {
				was := o.Sections[list[i]]
				for k, f := range s.Fixups {
					used, before := x.Symbols[f.To], o.Symbols[was.Fixups[k].To]
					if before.Where >= 0 {
						before.Where = slices.Index(list, before.Where)
					}
					if used != before {
						t.Errorf("the fixup %v uses %v, and before %v", f, used, before)
					}
					s.Fixups[k].To = was.Fixups[k].To
				}
				if !sameSection(s, was) {
					t.Errorf("of the section %v %v is kept", was, s)
				}
			}
			// Keeping the same again changes nothing.
			x, _ = impl.KeepSections(o, list)
			checkKeptIs(t, "again", x, numbersUpTo(0, 7), x)
		}
	}
}

func TestKeptObjectsHaveTheirOwnMemory(t *testing.T) {
	for _, given := range dumpedObjects() {
		for _, list := range [][]int{numbersUpTo(0, 7), impl.ReachSections(given, impl.NamesGiven(given)), nil} {
			checkOwnMemory(t, "KeepSections", given, func(o impl.Object) impl.Object {
				x, _ := impl.KeepSections(o, list)
				return x
			})
		}
	}
}

func TestNumbersOfSectionsHaveTheirOwnMemory(t *testing.T) {
	for _, given := range append(someObjects(), graphObject(8, chainPairs(7, 2, 5, 2)...), greatestObject(), lastObject(6)) {
		o := roomy(given)
		was := wholeOf(o)
		names := append(namesIn(o), "room", "more")[:len(namesIn(o))]
		before := slices.Clone(names[:cap(names)])
		first, second := impl.ReachSections(o, names), impl.ReachSections(o, names)
		want := slices.Clone(first)
		fillUp(first, 77)
		if !slices.Equal(second, want) || !slices.Equal(impl.ReachSections(o, names), want) {
			t.Errorf("%v are reached, and %v, if this is changed", want, second)
		}
		if !slices.Equal(names[:cap(names)], before) || !reflect.DeepEqual(wholeOf(o), was) {
			t.Errorf("%q or %v was changed", before, given)
		}
		fillUp(names, "spoiled")
		spoil(o)
		if !slices.Equal(second, want) {
			t.Errorf("%v became %v with the arguments", want, second)
		}
	}
}

func TestListsOfNumbersAreLeftAlone(t *testing.T) {
	for _, o := range []impl.Object{graphObject(8), fullObject(), graphObject(8, [2]int{0, 7})} {
		for many := range 7 {
			list := []int{5, -1, 5, 9, 0, 3, 2}
			was := slices.Clone(list)
			// What stands behind the length is not in the list.
			checkKept(t, o, list[:many]...)
			x, _ := impl.KeepSections(o, list[:many])
			want := cloneObject(x)
			if !slices.Equal(list, was) {
				t.Errorf("%v was changed to %v", was, list)
			}
			fillUp(list, 1)
			if !sameObject(x, want) {
				t.Errorf("%v changes with the numbers to %v", want, x)
			}
		}
	}
	names := []string{"n0", "n1", "n2"}
	for many := range 4 {
		if x := impl.ReachSections(graphObject(4), names[:many]); !slices.Equal(x, numbersUpTo(0, many-1)) {
			t.Errorf("from %q %v are reached", names[:many], x)
		}
	}
}

// TestManyArguments has lists that are far longer than what there may be of sections and symbols.
func TestManyArguments(t *testing.T) {
	o := graphObject(8, chainPairs(3, 1, 4, 1, 5)...)
	for _, many := range []int{13, 41, 255, 256, 1000, 100000} {
		if x := impl.ReachSections(o, append(manyNames(many, "x"), "n3")); !slices.Equal(x, []int{1, 3, 4, 5}) {
			t.Errorf("from %d names and one %v are reached", many, x)
		}
		if x := impl.ReachSections(o, manyNames(many, "n")); !slices.Equal(x, numbersUpTo(0, 7)) {
			t.Errorf("from %d names %v are reached", many, x)
		}
		checkKeptIs(t, fmt.Sprintf("%d numbers", many), o, numbersUpTo(-many, many), o)
		checkKept(t, o, append(numbersUpTo(8, many), 5, 4, 1)...)
	}
}
