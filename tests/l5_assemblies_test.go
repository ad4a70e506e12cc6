package tests

import (
	"slices"
	"strings"
	"testing"

	"loop.example/realizers/impl"
)

// assembly returns an assembly of elements whose realizers are told by a text,
// with commas in between.
func assembly(elements ...string) impl.Assembly {
	var a impl.Assembly
	for _, e := range elements {
		a.Realizers = append(a.Realizers, strings.Split(e, ","))
	}
	return a
}

// numbersByText is the assembly of the numbers less than n.
func numbersByText(n int) impl.Assembly {
	var a impl.Assembly
	for i := range n {
		a.Realizers = append(a.Realizers, []string{numeralText(i)})
	}
	return a
}

// modestAssemblies have no realizer of two elements.
func modestAssemblies() []impl.Assembly {
	return []impl.Assembly{
		assembly("k"), assembly("s,k"), assembly("(k k),k,(s s),(s k)"), assembly("k", falseText), assembly("s", "k"),
		assembly("k,s", "(k k),(k s)"), assembly("(k s),s", "k"), assembly("k,"+identity, "s,"+falseText), numbersByText(1),
		numbersByText(2), numbersByText(3), assembly("k,(k k)", "s,(s s)", "(k s),(s k)"), assembly("k", "s", "(k k)", "(k s)"),
		assembly("k,s", nestedK(59)+","+nestedS(59)),
	}
}

// looseAssemblies are valid, but not modest.
func looseAssemblies() []impl.Assembly {
	return []impl.Assembly{
		assembly("k", "k"), assembly("k,s", "k"), assembly("k", "s,k"), assembly("k,s", "s,k"), assembly("k,s", "s,(k k)"),
		assembly("k,s", "(k k)", "(k s),s"), assembly("k", "s", "k"), assembly("k,s,(k k),(s k)", "(s k)"),
		assembly(numeralText(1)+","+numeralText(0), numeralText(0)+","+numeralText(2)),
	}
}

func someAssemblies() []impl.Assembly {
	return append(modestAssemblies(), looseAssemblies()...)
}

// nestedS returns a normal term of one atom more than its depth.
func nestedS(depth int) string {
	return strings.Repeat("(s ", depth) + "s" + strings.Repeat(")", depth)
}

// wideAssemblies have as many elements, realizers and atoms as there may be.
func wideAssemblies() []impl.Assembly {
	var many impl.Assembly
	for n := range impl.ElementsMax {
		many.Realizers = append(many.Realizers, []string{nestedK(n), nestedS(n), nestedK(59 - n), nestedS(59 - n)})
	}
	return []impl.Assembly{
		many, numbersByText(6), assembly("k", "k", "k", "k", "k", "k"), assembly(nestedK(59)), assembly("k,s", "k,s", "k,s", "k,s", "k,s", "k,s"),
	}
}

// noRealizers are texts that no element has as a realizer.
func noRealizers() []string {
	return slices.Concat(noClosed(), []string{
		"((k k) k)", "((k s) k)", "(((s k) k) k)", "(((s s) s) s)", "(k ((k k) s))", "((s ((k k) k)) k)", endless, "(k " + endless + ")", growing, fixText,
		nestedK(60), nestedS(60), flat(61, "k"), nestedK(200), nestedK(1500), flat(3000, "s"), numeralText(6), numeralText(60),
	})
}

// noAssemblies are invalid.
func noAssemblies() []impl.Assembly {
	list := []impl.Assembly{
		{}, {Realizers: [][]string{}}, {Realizers: [][]string{nil}}, {Realizers: [][]string{{}}}, {Realizers: [][]string{{"k"}, {}}},
		{Realizers: [][]string{{}, {"k"}}}, {Realizers: [][]string{nil, nil}}, {Realizers: make([][]string, 1000000)},
		assembly("k", "s", "k", "s", "k", "s", "k"), assembly("k", "s", "(k k)", "(k s)", "(s k)", "(s s)", "(k (k k))"),
		numbersByText(7), assembly("k,s,(k k),(k s),(s k)"), assembly("k", "k,s,(k k),(k s),(s k)"), assembly("k,k"), assembly("k,s,k"),
		assembly("k", "s,k,(k k),s"), assembly("s,s", "k"), assembly("k,k,k,k,k"), assembly(strings.Repeat("k,", 1000000) + "k"),
	}
	for _, s := range noRealizers() {
		list = append(list, impl.Assembly{Realizers: [][]string{{s}}})
	}
	for _, s := range []string{"", "x", "((k k) k)", "(k k", nestedK(60), "k "} {
		list = append(list, assembly("k", s), assembly("k,"+s), assembly(s+",k"), assembly("k", "s", "(k k),"+s), assembly(s, "k"))
	}
	return list
}

// validByText reports whether an assembly is valid.
func validByText(a impl.Assembly) bool {
	if len(a.Realizers) < 1 || len(a.Realizers) > 6 {
		return false
	}
	for _, e := range a.Realizers {
		if len(e) < 1 || len(e) > 4 {
			return false
		}
		for i, s := range e {
			if !impl.TermClosed(s) || !impl.TermNormal(s) || atomsByText(s) > 60 || slices.Contains(e[:i], s) {
				return false
			}
		}
	}
	return true
}

// leadsByText reports whether a term leads one element to another one.
func leadsByText(s string, from, to []string) bool {
	for _, r := range from {
		normal, ok := impl.ApplyOf(s, r)
		if !ok || !slices.Contains(to, normal) {
			return false
		}
	}
	return true
}

func tracksByText(a, b impl.Assembly, list []int, s string) bool {
	for i, e := range a.Realizers {
		if !leadsByText(s, e, b.Realizers[list[i]]) {
			return false
		}
	}
	return true
}

// candidatesByText are the closed terms of a number of atoms in order.
func candidatesByText(size int) []string {
	return slices.Sorted(slices.Values(allTerms(size, []string{"k", "s"})))
}

// mapsByText are all maps of one assembly to another one.
func mapsByText(a, b impl.Assembly) [][]int {
	var values []int
	for j := range b.Realizers {
		values = append(values, j)
	}
	return argumentLists(len(a.Realizers), values...)
}

// trackersByText returns the maps of one assembly to another one, and for each
// one the least candidate that tracks it, or an empty text.
func trackersByText(a, b impl.Assembly, sizes int) ([][]int, []string) {
	maps := mapsByText(a, b)
	first := make([]string, len(maps))
	for size := 1; size <= sizes; size++ {
		for _, s := range candidatesByText(size) {
			leads := make([][]bool, len(a.Realizers))
			for i, e := range a.Realizers {
				for _, to := range b.Realizers {
					leads[i] = append(leads[i], leadsByText(s, e, to))
				}
			}
			for m, list := range maps {
				all := true
				for i, j := range list {
					all = all && leads[i][j]
				}
				if all && first[m] == "" {
					first[m] = s
				}
			}
		}
	}
	return maps, first
}

// same returns the list of a map that changes nothing.
func same(a impl.Assembly) []int {
	var list []int
	for i := range a.Realizers {
		list = append(list, i)
	}
	return list
}

func sameAssemblies(a, b impl.Assembly) bool {
	return slices.EqualFunc(a.Realizers, b.Realizers, slices.Equal[[]string])
}

func cloned(a impl.Assembly) impl.Assembly {
	var b impl.Assembly
	for _, e := range a.Realizers {
		b.Realizers = append(b.Realizers, slices.Clone(e))
	}
	return b
}

// noLists are no maps of an assembly of two elements to one of three.
var noLists = [][]int{
	nil, {}, {0}, {2}, {0, 1, 2}, {0, 0, 0}, {-1, 0}, {0, -1}, {3, 0}, {0, 3}, {1 << 62, 0}, {0, -1 << 63}, {2, 1, 0, 0},
}

func TestAssemblyValid(t *testing.T) {
	for _, a := range append(someAssemblies(), wideAssemblies()...) {
		if !impl.AssemblyValid(a) || !validByText(a) {
			t.Errorf("AssemblyValid does not hold for %q", a)
		}
	}
	for _, a := range noAssemblies() {
		if impl.AssemblyValid(a) || validByText(a) {
			t.Errorf("AssemblyValid holds for %s", brief(strings.Join(slices.Concat(a.Realizers...), ",")))
		}
	}
	for _, s := range slices.Concat(noRealizers(), closedTerms(4, 60), dataWords) {
		for _, a := range []impl.Assembly{assembly(s), assembly("k", s), assembly("k,(k s)", "s,"+s), assembly("(k s),"+s, "k")} {
			if got := impl.AssemblyValid(a); got != validByText(a) {
				t.Errorf("AssemblyValid returns %t for a realizer %q", got, brief(s))
			}
		}
	}
}

func TestAssemblyModest(t *testing.T) {
	for _, a := range modestAssemblies() {
		if !impl.AssemblyModest(a) {
			t.Errorf("AssemblyModest does not hold for %q", a)
		}
	}
	for _, a := range looseAssemblies() {
		if impl.AssemblyModest(a) {
			t.Errorf("AssemblyModest holds for %q", a)
		}
	}
	for i, a := range wideAssemblies() {
		if got, want := impl.AssemblyModest(a), []bool{true, true, false, true, false}[i]; got != want {
			t.Errorf("AssemblyModest returns %t for %q", got, a)
		}
	}
	for _, a := range noAssemblies() {
		if impl.AssemblyModest(a) {
			t.Errorf("AssemblyModest holds for %s", brief(strings.Join(slices.Concat(a.Realizers...), ",")))
		}
	}
	// The last realizer of the first element is the last one of the last element.
	last := assembly("k,s,(k k),(s s)", "(k s)", "(s k)", "(k (k k))", "(s (s s))", "(s (k k)),(k (s s)),(k (k s)),(s s)")
	if impl.AssemblyModest(last) || !impl.AssemblyValid(last) {
		t.Errorf("AssemblyModest holds for %q", last)
	}
}

// Promise 34.
func TestTrackSame(t *testing.T) {
	for _, a := range append(someAssemblies(), wideAssemblies()...) {
		if !impl.TrackIs(a, a, same(a), identity) {
			t.Errorf("i does not track the map that changes nothing, of %q", a)
		}
		for j, e := range a.Realizers {
			all := slices.Repeat([]int{j}, len(a.Realizers))
			for _, r := range e {
				if !impl.TrackIs(a, a, all, "(k "+r+")") {
					t.Errorf("k of %q does not track the map of all to %d, of %q", r, j, a)
				}
			}
		}
	}
	for _, a := range noAssemblies() {
		if impl.TrackIs(a, a, same(a), identity) || impl.TrackIs(a, assembly("k"), make([]int, len(a.Realizers)), "(k k)") {
			t.Errorf("TrackIs takes %s", brief(strings.Join(slices.Concat(a.Realizers...), ",")))
		}
		if impl.TrackIs(assembly("k"), a, []int{0}, identity) {
			t.Errorf("TrackIs takes a map to %s", brief(strings.Join(slices.Concat(a.Realizers...), ",")))
		}
	}
}

// Promise 35.
func TestTrackModest(t *testing.T) {
	for _, a := range modestAssemblies() {
		for _, list := range mapsByText(a, a) {
			if got := impl.TrackIs(a, a, list, identity); got != slices.Equal(list, same(a)) {
				t.Errorf("TrackIs returns %t for i and %v, of %q", got, list, a)
			}
		}
	}
	// Where an element has all realizers of another one, i leads this to it, too.
	for _, c := range []struct {
		a    impl.Assembly
		list []int
		want bool
	}{
		{assembly("k", "k"), []int{1, 0}, true}, {assembly("k", "k"), []int{1, 1}, true}, {assembly("k,s", "s,k"), []int{1, 0}, true},
		{assembly("k,s", "k"), []int{0, 0}, true}, {assembly("k,s", "k"), []int{1, 1}, false}, {assembly("k,s", "k"), []int{1, 0}, false},
		{assembly("k", "s,k"), []int{1, 1}, true}, {assembly("k", "s,k"), []int{0, 0}, false}, {assembly("k,s", "s,(k k)"), []int{1, 1}, false},
		{assembly("k,s", "s,(k k)"), []int{0, 0}, false}, {assembly("k", "s", "k"), []int{2, 1, 0}, true}, {assembly("k", "s", "k"), []int{1, 1, 0}, false},
	} {
		if got := impl.TrackIs(c.a, c.a, c.list, identity); got != c.want {
			t.Errorf("TrackIs returns %t for i and %v, of %q", got, c.list, c.a)
		}
	}
}

func TestTrackIs(t *testing.T) {
	two, bits := numbersByText(2), assembly("k", falseText)
	for _, c := range []struct {
		a, b impl.Assembly
		list []int
		s    string
		want bool
	}{
		{two, bits, []int{0, 1}, data(t, "zero"), true}, {two, bits, []int{1, 0}, data(t, "zero"), false},
		{numbersByText(4), bits, []int{0, 1, 1, 1}, data(t, "zero"), true}, {two, two, []int{0, 0}, data(t, "pred"), true},
		{two, two, []int{0, 1}, data(t, "pred"), false}, {two, numbersByText(3), []int{1, 2}, data(t, "succ"), true},
		{two, numbersByText(3), []int{0, 1}, data(t, "succ"), false}, {two, two, []int{1, 1}, data(t, "succ"), false},
		// An element has a realizer that the term leads to another element, or to none.
		{assembly("k,s"), assembly("k", "s"), []int{0}, identity, false}, {assembly("k,s"), assembly("k", "s"), []int{1}, identity, false},
		{assembly("s,k"), assembly("k,(k k)"), []int{0}, identity, false}, {assembly("k,s"), assembly("k,(k k)"), []int{0}, identity, false},
		{assembly("k,s"), assembly("s,k"), []int{0}, identity, true}, {assembly("k,s"), assembly("(k k),(k s)"), []int{0}, "k", true},
		{assembly("k,s"), assembly("(k k)", "(k s)"), []int{0}, "k", false}, {assembly("k,s"), assembly("k"), []int{0}, "(k k)", true},
		{assembly("k", "k,s"), assembly("k", "k,s"), []int{0, 1}, identity, true}, {assembly("k", "k,s"), assembly("k", "k,s"), []int{0, 0}, identity, false},
		{assembly("k", "k,s"), assembly("k", "k,s"), []int{1, 1}, identity, true}, {assembly("k", "s"), assembly("(s k),(s s)"), []int{0, 0}, "s", true},
		// What a term comes to counts, not the term.
		{two, two, []int{0, 1}, app("k", identity, endless), true}, {two, two, []int{0, 1}, app(identity, identity), true},
		{two, two, []int{0, 0}, endless, false}, {two, two, []int{0, 0}, "(k " + endless + ")", false}, {two, two, []int{0, 0}, growing, false},
		{assembly("(k k)"), assembly("k"), []int{0}, app("s", identity, "(k "+endless+")"), true},
		{assembly("(k k)", "((s k) k)"), assembly("k"), []int{0, 0}, app("s", identity, "(k "+endless+")"), false},
		// One of both assemblies is invalid.
		{assembly("k"), assembly("((k k) k)"), []int{0}, "(k k)", false}, {assembly("k,k"), assembly("k"), []int{0}, "(k k)", false},
	} {
		if got := impl.TrackIs(c.a, c.b, c.list, c.s); got != c.want {
			t.Errorf("TrackIs returns %t for %q, %q, %v and %q", got, c.a, c.b, c.list, c.s)
		}
	}
}

func TestTrackIsRules(t *testing.T) {
	all := someAssemblies()
	terms := append(closedTerms(3, 20), data(t, "pred"), data(t, "zero"), data(t, "first"), "(k k)", app("k", identity), "(s k)")
	held := 0
	for i, a := range all {
		for j, b := range all {
			maps := mapsByText(a, b)
			for k := range 4 {
				list := maps[(i+7*j+11*k)%len(maps)]
				s := terms[(3*i+5*j+k)%len(terms)]
				want := tracksByText(a, b, list, s)
				if got := impl.TrackIs(a, b, list, s); got != want {
					t.Fatalf("TrackIs returns %t for %q, %q, %v and %q", got, a, b, list, s)
				}
				if want {
					held++
				}
			}
		}
	}
	if held < 100 {
		t.Errorf("%d terms track a map", held)
	}
}

func TestTrackIsInvalid(t *testing.T) {
	a, b := assembly("k", "s"), numbersByText(3)
	always := "(k " + numeralText(0) + ")"
	if !impl.TrackIs(a, b, []int{0, 0}, always) || !impl.TrackIs(a, assembly("k"), []int{0, 0}, "(k k)") {
		t.Errorf("TrackIs does not hold")
	}
	for _, list := range noLists {
		if impl.TrackIs(a, b, list, always) {
			t.Errorf("TrackIs holds for %v", list)
		}
		if s, ok := impl.TrackFind(a, assembly("k", "k", "k"), list, 5); ok || s != "" {
			t.Errorf("TrackFind returns %q for %v", s, list)
		}
	}
	for _, s := range noClosed() {
		if impl.TrackIs(a, assembly("k"), []int{0, 0}, s) {
			t.Errorf("TrackIs holds for %q", brief(s))
		}
	}
	// The term is not closed, though what it comes to is a realizer.
	for _, s := range []string{"(k k) ", "((k (k k)) x)", "(k ((k k) x))", "(s ((k k) x))", "k) k"} {
		if impl.TrackIs(a, assembly("k"), []int{0, 0}, s) {
			t.Errorf("TrackIs holds for %q", s)
		}
	}
}

// slowClosed returns a closed term that comes to k in just as many steps.
func slowClosed(t *testing.T, steps int) string {
	twice := app("s", app("s", app("k", "s"), "k"), identity)
	loop := app(twice, twice, twice, identity)
	text := "k"
	for range steps % 210 {
		text = app("k", text, "k")
	}
	for range steps / 210 {
		text = app(loop, text)
	}
	if _, n, ok := impl.NormalOf(app("k", text, "s")); steps < 6000 && (!ok || n != steps+1) {
		t.Fatalf("NormalOf takes %d steps, not %d", n, steps+1)
	}
	return text
}

func TestTrackIsLimits(t *testing.T) {
	one := assembly("k", "s")
	for steps, want := range map[int]bool{5000: true, 5998: true, 5999: true, 6000: false, 6001: false} {
		if got := impl.TrackIs(one, assembly("k"), []int{0, 0}, app("k", slowClosed(t, steps))); got != want {
			t.Errorf("TrackIs returns %t for a term that takes %d steps", got, steps+1)
		}
	}
	for atoms, want := range map[int]bool{2990: true, 2999: true, 3000: false, 3001: false} {
		if got := impl.TrackIs(one, assembly("k"), []int{0, 0}, app("k", "(k k)", flat(atoms-3, "s"))); got != want {
			t.Errorf("TrackIs returns %t for a term of %d atoms", got, atoms)
		}
	}
	if !impl.TrackIs(one, assembly("k"), []int{0, 0}, app("k", "(k k)", nestedK(1498))) {
		t.Errorf("TrackIs does not hold for parentheses within each other 1499 times")
	}
	if impl.TrackIs(one, assembly("k"), []int{0, 0}, app("k", "(k k)", nestedK(1499))) {
		t.Errorf("TrackIs holds for parentheses within each other 1501 times")
	}
}

// Promise 36.
func TestTrackAfterSame(t *testing.T) {
	held := 0
	all := someAssemblies()
	for i, a := range all {
		b := all[(i+5)%len(all)]
		maps, trackers := trackersByText(a, b, 4)
		for m, s := range trackers {
			if s == "" {
				continue
			}
			held++
			for _, c := range [][2]string{{s, identity}, {identity, s}} {
				after, ok := impl.TrackAfter(c[0], c[1])
				if !ok || !impl.TrackIs(a, b, maps[m], after) {
					t.Errorf("TrackAfter returns %q for %q and %q, %q, %q and %v", after, c[0], c[1], a, b, maps[m])
				}
			}
		}
	}
	if held < 20 {
		t.Errorf("%d terms track a map", held)
	}
}

func TestTrackAfterMaps(t *testing.T) {
	four, bits := numbersByText(4), assembly("k", falseText)
	zero, pred, second := data(t, "zero"), data(t, "pred"), data(t, "second")
	after, ok := impl.TrackAfter(pred, zero)
	if !ok || !impl.TrackIs(four, bits, []int{0, 0, 1, 1}, after) {
		t.Errorf("TrackAfter of pred and zero returns %q", after)
	}
	twice, ok := impl.TrackAfter(pred, pred)
	if !ok || !impl.TrackIs(four, four, []int{0, 0, 0, 1}, twice) {
		t.Errorf("TrackAfter of pred and pred returns %q", twice)
	}
	ends, ok := impl.TrackAfter(second, zero)
	if !ok || !impl.TrackIs(assembly(numeralText(1), numeralText(2)), bits, []int{0, 1}, ends) {
		t.Errorf("TrackAfter of second and zero returns %q", ends)
	}
}

// Promise 38.
func TestTrackAfter(t *testing.T) {
	for _, c := range [][3]string{
		{"k", "s", "((s (k s)) k)"}, {"s", "k", "((s (k k)) s)"}, {identity, "k", "((s (k k)) ((s k) k))"},
		{"(k s)", identity, "((s (k ((s k) k))) (k s))"}, {"((k s) k)", "(s s)", "((s (k (s s))) ((k s) k))"},
	} {
		if got, ok := impl.TrackAfter(c[0], c[1]); !ok || got != c[2] {
			t.Errorf("TrackAfter returns %q for %q and %q", got, c[0], c[1])
		}
	}
	terms := closedTerms(3, 20)
	for i, s := range terms {
		for j, u := range terms {
			got, ok := impl.TrackAfter(s, u)
			if !ok || got != abstractByText("x", app(u, app(s, "x"))) {
				t.Fatalf("TrackAfter returns %q for %q and %q", brief(got), s, u)
			}
			if (i+j)%8 == 0 && !sameNormal(app(got, "k"), app(u, app(s, "k"))) {
				t.Fatalf("TrackAfter of %q and %q comes to something else for k", s, u)
			}
		}
	}
}

func TestTrackAfterLimits(t *testing.T) {
	for _, c := range []struct {
		s, u string
		want bool
	}{
		{flat(1500, "k"), flat(1498, "s"), true}, {flat(1500, "k"), flat(1499, "s"), false}, {flat(2997, "k"), "s", true},
		{flat(2998, "k"), "s", false}, {"k", flat(2997, "k"), true}, {"k", flat(2998, "k"), false}, {flat(3000, "k"), flat(3000, "k"), false},
		{nestedK(1499), "k", true}, {nestedK(1500), "k", false}, {"k", nestedK(1497), true}, {"k", nestedK(1498), false},
		{"k", nestedK(1500), false}, {nestedK(1490), nestedS(1490), true},
	} {
		got, ok := impl.TrackAfter(c.s, c.u)
		if ok != c.want || ok && got != app("s", app("k", c.u), c.s) || !ok && got != "" {
			t.Errorf("TrackAfter returns %q for %q and %q", brief(got), brief(c.s), brief(c.u))
		}
	}
}

func TestTrackAfterFails(t *testing.T) {
	for _, s := range append(noClosed(), "k) k", "((k k) x)") {
		for _, c := range [][2]string{{s, "k"}, {"k", s}, {s, s}} {
			if got, ok := impl.TrackAfter(c[0], c[1]); ok || got != "" {
				t.Errorf("TrackAfter returns %q for %q and %q", brief(got), brief(c[0]), brief(c[1]))
			}
		}
	}
}

func TestTrackFindTexts(t *testing.T) {
	two, three, bits := numbersByText(2), numbersByText(3), assembly("k", falseText)
	for _, c := range []struct {
		a, b impl.Assembly
		list []int
		n    int
		want string
	}{
		{two, two, []int{0, 1}, 3, identity}, {two, two, []int{0, 1}, 5, identity}, {two, two, []int{0, 1}, 2, ""}, {two, two, []int{0, 1}, 0, ""},
		{two, two, []int{0, 0}, 5, "(k ((s k) k))"}, {two, two, []int{0, 0}, 4, "(k ((s k) k))"}, {two, two, []int{0, 0}, 3, ""},
		{two, two, []int{1, 0}, 5, ""}, {bits, bits, []int{0, 1}, 5, identity}, {three, two, []int{0, 0, 0}, 5, "(k ((s k) k))"},
		{assembly("k"), assembly("(k k)"), []int{0}, 1, "k"}, {assembly("k"), assembly("(s k)"), []int{0}, 1, "s"},
		{assembly("k"), assembly("(k k),(s k)"), []int{0}, 1, "k"}, {assembly("k"), assembly("(k s)"), []int{0}, 5, "(k (k s))"},
		{assembly("s,k"), assembly("(k k),(k s)"), []int{0}, 1, "k"}, {assembly("s,k"), assembly("(k k),(s s)"), []int{0}, 1, ""},
		{assembly("k,s"), assembly("k"), []int{0}, 1, ""}, {assembly("k,s"), assembly("k"), []int{0}, 2, "(k k)"},
		{assembly("k", "s"), assembly("k", "s"), []int{1, 1}, 2, "(k s)"}, {assembly("k", "s"), assembly("s", "s"), []int{1, 0}, 5, "(k s)"},
		{assembly("k,s"), assembly("k,s"), []int{0}, 5, "(k k)"}, {assembly("k,s"), assembly("s,k"), []int{0}, 1, ""},
		{assembly("k", "s"), assembly("k", "s"), []int{0, 1}, 5, "((s k) k)"}, {assembly("(k k)"), assembly("((s (k k)) (k k))"), []int{0}, 5, "(s (k k))"},
		// Of the same size is (s (k k)), too, which stands behind it.
		{assembly("k"), assembly("((s k) (k k)),((s (k k)) k)"), []int{0}, 5, "((s s) k)"},
	} {
		got, ok := impl.TrackFind(c.a, c.b, c.list, c.n)
		if got != c.want || ok != (c.want != "") {
			t.Errorf("TrackFind returns %q for %q, %q, %v and %d, not %q", got, c.a, c.b, c.list, c.n, c.want)
		}
	}
}

// Promise 37.
func TestTrackFind(t *testing.T) {
	all := someAssemblies()
	found := map[int]int{}
	for i, a := range all {
		for _, b := range []impl.Assembly{a, all[(i+3)%len(all)], all[(i+8)%len(all)]} {
			maps, trackers := trackersByText(a, b, 5)
			for m, list := range maps {
				// Of many maps, some.
				if m%(1+len(maps)/8) != 0 && trackers[m] == "" {
					continue
				}
				size := checkTrackFind(t, a, b, list, trackers[m])
				found[size]++
			}
		}
	}
	for _, size := range []int{0, 1, 2, 3, 4, 5} {
		if found[size] < 2 {
			t.Errorf("TrackFind finds %d terms of %d atoms", found[size], size)
		}
	}
}

// checkTrackFind holds TrackFind against the first term that tracks a map, and
// returns the size of this, or 0 if there is none.
func checkTrackFind(t *testing.T, a, b impl.Assembly, list []int, want string) int {
	size := 0
	if want != "" {
		size = atomsByText(want)
		if !impl.TrackIs(a, b, list, want) {
			t.Errorf("TrackIs does not hold for %q, %q, %v and %q", a, b, list, want)
		}
	}
	for n := range 6 {
		now := want
		if n < size {
			now = ""
		}
		if got, ok := impl.TrackFind(a, b, list, n); got != now || ok != (now != "") {
			t.Errorf("TrackFind returns %q for %q, %q, %v and %d, not %q", got, a, b, list, n, now)
		}
	}
	return size
}

func TestTrackFindFails(t *testing.T) {
	a := assembly("k", "s")
	for _, n := range []int{-1, 6, 7, 100, -1 << 63, 1<<63 - 1} {
		if s, ok := impl.TrackFind(a, a, []int{0, 0}, n); ok || s != "" {
			t.Errorf("TrackFind returns %q for %d", s, n)
		}
	}
	for _, b := range noAssemblies() {
		if s, ok := impl.TrackFind(b, assembly("k"), make([]int, len(b.Realizers)), 5); ok || s != "" {
			t.Errorf("TrackFind returns %q for a map of an invalid assembly", s)
		}
		if s, ok := impl.TrackFind(assembly("k"), b, []int{0}, 5); ok || s != "" {
			t.Errorf("TrackFind returns %q for a map to an invalid assembly", s)
		}
	}
}

// pairByText is the assembly of pairs, whether valid or not.
func pairByText(a, b impl.Assembly) impl.Assembly {
	var c impl.Assembly
	for _, e := range a.Realizers {
		for _, g := range b.Realizers {
			var pairs []string
			for _, r := range e {
				for _, q := range g {
					pairs = append(pairs, pairText(r, q))
				}
			}
			c.Realizers = append(c.Realizers, pairs)
		}
	}
	return c
}

func TestAssemblyPairTexts(t *testing.T) {
	for _, c := range []struct{ a, b, want impl.Assembly }{
		{assembly("k"), assembly("s"), assembly("((s ((s ((s k) k)) (k k))) (k s))")},
		{assembly("k,s"), assembly("s,k"), assembly(pairText("k", "s") + "," + pairText("k", "k") + "," + pairText("s", "s") + "," + pairText("s", "k"))},
		{assembly("k", "s"), assembly("s,k"), assembly(pairText("k", "s")+","+pairText("k", "k"), pairText("s", "s")+","+pairText("s", "k"))},
		{assembly("s,k"), assembly("k", "s"), assembly(pairText("s", "k")+","+pairText("k", "k"), pairText("s", "s")+","+pairText("k", "s"))},
		{assembly("k", "s"), assembly("(k k)", "k", "s"), assembly(
			pairText("k", "(k k)"), pairText("k", "k"), pairText("k", "s"), pairText("s", "(k k)"), pairText("s", "k"), pairText("s", "s"))},
		{assembly("k", "k"), assembly("s"), assembly(pairText("k", "s"), pairText("k", "s"))},
	} {
		if got, ok := impl.AssemblyPair(c.a, c.b); !ok || !sameAssemblies(got, c.want) {
			t.Errorf("AssemblyPair returns %q for %q and %q", got, c.a, c.b)
		}
	}
}

// Promise 39.
func TestAssemblyPair(t *testing.T) {
	first, second := data(t, "first"), data(t, "second")
	good, bad := 0, 0
	all := append(someAssemblies(), wideAssemblies()...)
	for _, a := range all {
		for _, b := range all {
			got, ok := impl.AssemblyPair(a, b)
			want := pairByText(a, b)
			if ok != validByText(want) || ok && !sameAssemblies(got, want) || !ok && len(got.Realizers) > 0 {
				t.Fatalf("AssemblyPair returns %q for %q and %q", got, a, b)
			}
			if !ok {
				bad++
				continue
			}
			good++
			var toFirst, toSecond []int
			for i := range a.Realizers {
				for j := range b.Realizers {
					toFirst, toSecond = append(toFirst, i), append(toSecond, j)
				}
			}
			if !impl.TrackIs(got, a, toFirst, first) || !impl.TrackIs(got, b, toSecond, second) {
				t.Errorf("first or second does not track the map to a part, for %q and %q", a, b)
			}
		}
	}
	if good < 50 || bad < 50 {
		t.Errorf("AssemblyPair succeeds %d times and fails %d times", good, bad)
	}
}

func TestAssemblyPairLimits(t *testing.T) {
	for _, c := range []struct {
		a, b impl.Assembly
		want bool
	}{
		{assembly("k,s"), assembly("k,s"), true}, {assembly("k,s"), assembly("k,s,(k k)"), false}, {assembly("k,s,(k k),(k s)"), assembly("s"), true},
		{assembly("s"), assembly("k,s,(k k),(k s)"), true}, {assembly("k,s,(k k)"), assembly("k,s"), false}, {numbersByText(2), assembly("k", "s", "(k k)"), true},
		{assembly("k", "s", "(k k)"), numbersByText(2), true}, {assembly("k", "k"), assembly("k", "k", "k", "k"), false},
		{assembly("k"), assembly("k", "k", "k", "k", "k", "k"), true}, {assembly("k", "k", "k"), assembly("k", "k", "k"), false},
		{assembly(nestedK(51)), assembly("k"), true}, {assembly(nestedK(52)), assembly("k"), false}, {assembly("k"), assembly(nestedK(51)), true},
		{assembly("k"), assembly(nestedK(52)), false}, {assembly(nestedK(25)), assembly(nestedS(26)), true}, {assembly(nestedK(26)), assembly(nestedS(26)), false},
		{assembly("k", "k,"+nestedK(52)), assembly("k"), false}, {assembly("k"), assembly("k", "s,"+nestedK(52)), false},
	} {
		if got, ok := impl.AssemblyPair(c.a, c.b); ok != c.want || !ok && len(got.Realizers) > 0 {
			t.Errorf("AssemblyPair returns %q for %q and %q", got, c.a, c.b)
		}
	}
}

// sumByText is the assembly of both sides, whether valid or not.
func sumByText(a, b impl.Assembly) impl.Assembly {
	left, right := pairByText(assembly("k"), a), pairByText(assembly(falseText), b)
	return impl.Assembly{Realizers: append(left.Realizers, right.Realizers...)}
}

func TestAssemblySumTexts(t *testing.T) {
	for _, c := range []struct{ a, b, want impl.Assembly }{
		{assembly("k"), assembly("s"), assembly("((s ((s ((s k) k)) (k k))) (k k))", "((s ((s ((s k) k)) (k (k ((s k) k))))) (k s))")},
		{assembly("k,s"), assembly("s", "k,s"), assembly(
			pairText("k", "k")+","+pairText("k", "s"), pairText(falseText, "s"), pairText(falseText, "k")+","+pairText(falseText, "s"))},
		{assembly("s", "k"), assembly("k"), assembly(pairText("k", "s"), pairText("k", "k"), pairText(falseText, "k"))},
		{assembly("k", "k"), assembly("k"), assembly(pairText("k", "k"), pairText("k", "k"), pairText(falseText, "k"))},
	} {
		if got, ok := impl.AssemblySum(c.a, c.b); !ok || !sameAssemblies(got, c.want) {
			t.Errorf("AssemblySum returns %q for %q and %q", got, c.a, c.b)
		}
	}
}

// Promise 40.
func TestAssemblySum(t *testing.T) {
	pair := data(t, "pair")
	good, bad, modest := 0, 0, 0
	all := append(someAssemblies(), wideAssemblies()...)
	for _, a := range all {
		for _, b := range all {
			got, ok := impl.AssemblySum(a, b)
			want := sumByText(a, b)
			if ok != validByText(want) || ok && !sameAssemblies(got, want) || !ok && len(got.Realizers) > 0 {
				t.Fatalf("AssemblySum returns %q for %q and %q", got, a, b)
			}
			if !ok {
				bad++
				continue
			}
			good++
			right := same(got)[len(a.Realizers):]
			if !impl.TrackIs(a, got, same(a), app(pair, "k")) || !impl.TrackIs(b, got, right, app(pair, falseText)) {
				t.Errorf("pair of true or of false does not track the map of a side, for %q and %q", a, b)
			}
			both := impl.AssemblyModest(a) && impl.AssemblyModest(b)
			if impl.AssemblyModest(got) != both {
				t.Errorf("AssemblyModest returns %t for the sum of %q and %q", !both, a, b)
			}
			if both {
				modest++
			}
		}
	}
	if good < 50 || bad < 50 || modest < 20 {
		t.Errorf("AssemblySum succeeds %d times, %d times for modest ones, and fails %d times", good, modest, bad)
	}
}

func TestAssemblySumLimits(t *testing.T) {
	for _, c := range []struct {
		a, b impl.Assembly
		want bool
	}{
		{assembly("k", "k", "k"), assembly("k", "k", "k"), true}, {assembly("k", "k", "k", "k"), assembly("k", "k", "k"), false},
		{assembly("k"), assembly("k", "k", "k", "k", "k"), true}, {assembly("k"), assembly("k", "k", "k", "k", "k", "k"), false},
		{assembly("k,s,(k k),(k s)"), assembly("k,s,(k k),(k s)"), true}, {assembly(nestedK(51)), assembly("k"), true},
		{assembly(nestedK(52)), assembly("k"), false}, {assembly("k"), assembly(nestedK(48)), true}, {assembly("k"), assembly(nestedK(49)), false},
		{assembly("k," + nestedS(52)), assembly("k"), false}, {assembly("k"), assembly("k", "s,"+nestedS(49)), false},
	} {
		if got, ok := impl.AssemblySum(c.a, c.b); ok != c.want || !ok && len(got.Realizers) > 0 {
			t.Errorf("AssemblySum returns %q for %q and %q", got, c.a, c.b)
		}
	}
}

func TestAssembliesInvalid(t *testing.T) {
	good := assembly("k", "s")
	for _, a := range noAssemblies() {
		for _, c := range [][2]impl.Assembly{{a, good}, {good, a}, {a, a}} {
			if got, ok := impl.AssemblyPair(c[0], c[1]); ok || len(got.Realizers) > 0 {
				t.Errorf("AssemblyPair returns %q for an invalid assembly", got)
			}
			if got, ok := impl.AssemblySum(c[0], c[1]); ok || len(got.Realizers) > 0 {
				t.Errorf("AssemblySum returns %q for an invalid assembly", got)
			}
			if got, ok := impl.AssemblyMaps(c[0], c[1], 1); ok || got != 0 {
				t.Errorf("AssemblyMaps returns %d for an invalid assembly", got)
			}
		}
	}
}

// Promise 41.
func TestAssemblyNumbers(t *testing.T) {
	pred := data(t, "pred")
	for n := 1; n <= 6; n++ {
		got, ok := impl.AssemblyNumbers(n)
		if !ok || !sameAssemblies(got, numbersByText(n)) || len(got.Realizers) != n || !impl.AssemblyModest(got) {
			t.Fatalf("AssemblyNumbers returns %q for %d", got, n)
		}
		var less []int
		for i := range n {
			less = append(less, max(i-1, 0))
		}
		if !impl.TrackIs(got, got, less, pred) {
			t.Errorf("pred does not track the map of 1 less for %d numbers", n)
		}
		if n > 1 && impl.TrackIs(got, got, same(got), pred) {
			t.Errorf("pred tracks the map that changes nothing for %d numbers", n)
		}
	}
	for _, n := range []int{0, -1, 7, 8, 60, 61, -1 << 63, 1<<63 - 1} {
		if got, ok := impl.AssemblyNumbers(n); ok || len(got.Realizers) > 0 {
			t.Errorf("AssemblyNumbers returns %q for %d", got, n)
		}
	}
}

func TestAssemblyMapsTexts(t *testing.T) {
	for _, c := range []struct {
		a, b    impl.Assembly
		n, want int
	}{
		{numbersByText(2), numbersByText(2), 0, 0}, {numbersByText(2), numbersByText(2), 2, 0}, {numbersByText(2), numbersByText(2), 3, 1},
		{numbersByText(2), numbersByText(2), 4, 2}, {assembly("k", "s"), assembly("k", "s"), 1, 0}, {assembly("k", "s"), assembly("k", "s"), 2, 2},
		{assembly("k", "s"), assembly("k", "s"), 3, 3}, {assembly("k,s"), assembly("k", "s"), 4, 2}, {assembly("k,s"), assembly("k,s", "s,k"), 1, 0},
		{assembly("k,s"), assembly("k,s", "s,k"), 2, 2}, {assembly("k"), assembly("(k k),s", "(k k),k", "k"), 1, 2},
		// One term tracks several maps to elements that have a realizer in common.
		{assembly("k", "s"), assembly("k", "k"), 1, 0}, {assembly("k", "s"), assembly("k", "k"), 2, 4}, {assembly("k"), assembly("(k k)", "(k k)", "(s k)"), 1, 3},
		{assembly("s", "s", "s", "s", "s", "s"), assembly("(k s)", "(k s)"), 1, 64}, {assembly("s", "k"), assembly("(k s),(k k)", "(k s)"), 1, 2},
		{assembly("s", "s", "s"), assembly("(k s)", "(k s)", "(k s)", "(k s)"), 1, 64},
		{assembly("s", "s", "s", "s", "s", "s"), assembly("(k s),(k k)"), 1, 1},
	} {
		if got, ok := impl.AssemblyMaps(c.a, c.b, c.n); !ok || got != c.want {
			t.Errorf("AssemblyMaps returns %d for %q, %q and %d, not %d", got, c.a, c.b, c.n, c.want)
		}
	}
}

// Promise 42.
func TestAssemblyMaps(t *testing.T) {
	all := append(someAssemblies(), wideAssemblies()[2:]...)
	counted := 0
	for i, a := range all {
		for j, b := range all {
			if len(mapsByText(a, b)) > 64 {
				for n := range 5 {
					if got, ok := impl.AssemblyMaps(a, b, n); ok || got != 0 {
						t.Errorf("AssemblyMaps returns %d for %q and %q", got, a, b)
					}
				}
				continue
			}
			if (i+j)%3 == 0 {
				counted++
				checkMaps(t, a, b)
			}
		}
	}
	if counted < 50 {
		t.Errorf("AssemblyMaps counts %d times", counted)
	}
}

// checkMaps holds AssemblyMaps against the maps that terms track.
func checkMaps(t *testing.T, a, b impl.Assembly) {
	maps, trackers := trackersByText(a, b, 4)
	last := 0
	for n := range 5 {
		want := 0
		for _, s := range trackers {
			if s != "" && atomsByText(s) <= n {
				want++
			}
		}
		got, ok := impl.AssemblyMaps(a, b, n)
		if !ok || got != want || got < last || got > len(maps) {
			t.Errorf("AssemblyMaps returns %d for %q, %q and %d, not %d", got, a, b, n, want)
		}
		last = got
	}
}

func TestAssemblyMapsFails(t *testing.T) {
	k := assembly("k")
	for _, n := range []int{-1, 5, 6, 100, -1 << 63, 1<<63 - 1} {
		if got, ok := impl.AssemblyMaps(k, k, n); ok || got != 0 {
			t.Errorf("AssemblyMaps returns %d for %d", got, n)
		}
	}
	// The numbers of maps are just in the limit, or beyond it.
	for _, c := range []struct {
		from, to int
		want     bool
	}{
		{6, 1, true}, {6, 2, true}, {6, 3, false}, {3, 3, true}, {4, 3, false}, {3, 4, true}, {4, 4, false}, {2, 6, true}, {3, 5, false}, {3, 6, false}, {6, 6, false}, {1, 6, true},
	} {
		got, ok := impl.AssemblyMaps(numbersByText(c.from), numbersByText(c.to), 1)
		if ok != c.want || got != 0 {
			t.Errorf("AssemblyMaps returns %d, %t for %d and %d elements", got, ok, c.from, c.to)
		}
	}
}

// Arguments stay as they are, and results share no memory.
func TestAssembliesMemory(t *testing.T) {
	a, b := assembly("k,s", "s"), assembly("(k k),k", "k", "s")
	keptA, keptB, list := cloned(a), cloned(b), []int{0, 1}
	for range 2 {
		pair, _ := impl.AssemblyPair(a, b)
		sum, _ := impl.AssemblySum(a, b)
		numbers, _ := impl.AssemblyNumbers(3)
		for _, c := range []struct{ got, want impl.Assembly }{{pair, pairByText(a, b)}, {sum, sumByText(a, b)}, {numbers, numbersByText(3)}} {
			if !sameAssemblies(c.got, c.want) {
				t.Fatalf("the assembly is %q, not %q", c.got, c.want)
			}
			for i, e := range c.got.Realizers {
				_ = append(e, "longer")
				if i+1 < len(c.got.Realizers) && c.got.Realizers[i+1][0] == "longer" {
					t.Errorf("elements of %q share memory", c.got)
				}
				e[0] = "changed"
			}
			_ = append(c.got.Realizers, []string{"longer"})
		}
		impl.AssemblyValid(a)
		impl.AssemblyModest(b)
		impl.TrackIs(a, b, list, identity)
		impl.TrackFind(a, b, list, 3)
		impl.AssemblyMaps(a, b, 2)
		if !sameAssemblies(a, keptA) || !sameAssemblies(b, keptB) || !slices.Equal(list, []int{0, 1}) {
			t.Fatalf("the arguments become %q, %q and %v", a, b, list)
		}
	}
}
