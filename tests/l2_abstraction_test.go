package tests

import (
	"slices"
	"strconv"
	"strings"
	"testing"

	"loop.example/realizers/impl"
)

// falseText is false, numeralText(0) and identity being the same term.
const falseText = "(k ((s k) k))"

func pairText(first, second string) string {
	return app("s", app("s", identity, app("k", first)), app("k", second))
}

func numeralText(n int) string {
	text := identity
	for range n {
		text = pairText(falseText, text)
	}
	return text
}

// abstractByText follows the rules of an abstraction along a text.
func abstractByText(name, text string) string {
	all := parts(text)
	return abstractPart(name, text, all[len(all)-1])
}

func abstractPart(name, text string, p *part) string {
	of := func(q *part) string { return text[q.from:q.to] }
	has := func(q *part) bool { return slices.Contains(namesByText(of(q)), name) }
	switch {
	case p.isAtom(text, name):
		return identity
	case !has(p):
		return app("k", of(p))
	case p.right.isAtom(text, name) && !has(p.left):
		return of(p.left)
	}
	return app("s", abstractPart(name, text, p.left), abstractPart(name, text, p.right))
}

// data returns the term of a word that must have one.
func data(t *testing.T, word string) string {
	s, ok := impl.DataOf(word)
	if !ok {
		t.Fatalf("DataOf fails for %q", word)
	}
	return s
}

// sameNormal reports whether two terms come to the same normal term, or one of
// them to none.
func sameNormal(a, b string) bool {
	one, _, ok := impl.NormalOf(a)
	two, _, okTwo := impl.NormalOf(b)
	return !ok || !okTwo || one == two
}

var dataWords = []string{"i", "true", "false", "pair", "first", "second", "zero", "succ", "pred", "fix"}

func TestAbstractTexts(t *testing.T) {
	for _, c := range []struct {
		names   []string
		s, want string
	}{
		{[]string{"x"}, "x", identity},
		{[]string{"x"}, "k", "(k k)"},
		{[]string{"x"}, "y", "(k y)"},
		{[]string{"x"}, "x0", "(k x0)"},
		{[]string{"x0"}, "x00", "(k x00)"},
		{[]string{"x"}, "(y z)", "(k (y z))"},
		{[]string{"x"}, "((y z) (k s))", "(k ((y z) (k s)))"},
		// A name that is used once, at the end, and its neighbours.
		{[]string{"x"}, "(y x)", "y"},
		{[]string{"x"}, "((y z) x)", "(y z)"},
		{[]string{"x"}, "(k x)", "k"},
		{[]string{"x"}, "(x x)", "((s ((s k) k)) ((s k) k))"},
		{[]string{"x"}, "((x y) x)", "((s ((s ((s k) k)) (k y))) ((s k) k))"},
		{[]string{"x"}, "((y x) x)", "((s y) ((s k) k))"},
		{[]string{"x"}, "(y (z x))", "((s (k y)) z)"},
		{[]string{"x"}, "(y (y (z x)))", "((s (k y)) ((s (k y)) z))"},
		{[]string{"x"}, "((y x) z)", "((s y) (k z))"},
		{[]string{"x"}, "((y x) (z x))", "((s y) z)"},
		{[]string{"x"}, "(x y)", "((s ((s k) k)) (k y))"},
		{[]string{"x"}, "((k x) y)", "((s k) (k y))"},
		// The first name is taken from what the others leave.
		{[]string{"x", "y"}, "x", "k"},
		{[]string{"x", "y"}, "y", "(k ((s k) k))"},
		{[]string{"x", "y"}, "(x y)", identity},
		{[]string{"y", "x"}, "(x y)", "((s (k (s ((s k) k)))) k)"},
		{[]string{"x", "y", "z"}, "((x z) (y z))", "s"},
		{[]string{"x", "y", "z"}, "k", "(k (k (k k)))"},
		{[]string{"x1", "x", "x01"}, "((x1 x) x01)", identity},
		{nil, "((k x) y)", "((k x) y)"},
		{[]string{}, "x", "x"},
	} {
		if got, ok := impl.Abstract(c.names, c.s); !ok || got != c.want {
			t.Errorf("Abstract returns %q for %q from %q, not %q", got, c.names, c.s, c.want)
		}
	}
}

func TestAbstractRules(t *testing.T) {
	lists := [][]string{{"x"}, {"y"}, {"z"}, {"x", "y"}, {"y", "x"}, {"x", "z", "y"}, {"u007", "x", "z1", "y"}}
	for _, s := range append(termsUpTo(5, []string{"k", "x", "y"}), mixedTerms(600)...) {
		for _, names := range lists {
			want, fits := s, true
			for _, name := range slices.Backward(names) {
				want = abstractByText(name, want)
				fits = fits && impl.TermValid(want)
			}
			if got, ok := impl.Abstract(names, s); ok != fits || ok && got != want {
				t.Fatalf("Abstract returns %q for %q from %q, not %q", got, names, s, want)
			}
		}
	}
}

// Promise 12.
func TestAbstract(t *testing.T) {
	lists := [][]string{{}, {"x"}, {"y"}, {"x", "y"}, {"y", "x"}, {"z1", "y", "u007", "x"}}
	for _, s := range append(termsUpTo(4, []string{"k", "s", "x", "y"}), mixedTerms(600)...) {
		for _, names := range lists {
			taken, ok := impl.Abstract(names, s)
			if !ok || !impl.TermValid(taken) {
				t.Fatalf("Abstract fails for %q from %q", names, s)
			}
			put := s
			applied := taken
			for _, name := range names {
				if slices.Contains(namesByText(taken), name) {
					t.Fatalf("Abstract returns %q for %q from %q", taken, names, s)
				}
				put, _ = impl.TermPut(put, name, "k")
				applied = app(applied, "k")
			}
			if !sameNormal(applied, put) {
				t.Fatalf("%q applied to k is not %q with k put", taken, s)
			}
		}
	}
}

func TestAbstractFails(t *testing.T) {
	check := func(names []string, s string) {
		t.Helper()
		if got, ok := impl.Abstract(names, s); ok || got != "" {
			t.Errorf("Abstract returns %q for %.300q from %q", brief(got), names, brief(s))
		}
	}
	for _, s := range append(noTerms(), largeNoTerms()...) {
		check([]string{"x"}, s)
		check(nil, s)
		check([]string{s}, "x")
		check([]string{"x", s}, "x")
		check([]string{s, "x"}, "y")
	}
	for _, name := range []string{"k", "s", "(x y)", "x ", "u1234"} {
		check([]string{name}, "(k s)")
		check([]string{"y", name}, "(k s)")
	}
	check([]string{"x", "x"}, "x")
	check([]string{"x", "y", "x"}, "k")
	check([]string{"y", "x", "x"}, "k")
	check([]string{"u", "v", "w", "x", "y", "z", "u0", "u"}, "k")
	check([]string{"u", "v", "w", "x", "y", "z", "u0", "u00", "u000"}, "k")
}

func TestAbstractNames(t *testing.T) {
	names := []string{"u", "v", "w", "x", "y", "z", "u0", "u00"}
	kept := slices.Clone(names)
	if s, ok := impl.Abstract(names, app(names...)); !ok || s != identity {
		t.Errorf("Abstract returns %q for 8 names", s)
	}
	if s, ok := impl.Abstract(names, "k"); !ok || s != nestedK(8) {
		t.Errorf("Abstract returns %q for 8 names that are not in it", s)
	}
	if !slices.Equal(names, kept) {
		t.Errorf("Abstract makes %q of its names", names)
	}
}

func nestedK(depth int) string {
	return strings.Repeat("(k ", depth) + "k" + strings.Repeat(")", depth)
}

func TestAbstractLimits(t *testing.T) {
	for _, c := range []struct {
		names []string
		s     string
		want  int
	}{
		{[]string{"x"}, flat(2999, "k"), 3000},
		{[]string{"x"}, flat(3000, "k"), -1},
		{[]string{"x", "y"}, flat(2998, "z"), 3000},
		{[]string{"x", "y"}, flat(2999, "z"), -1},
		{[]string{"x"}, app(flat(2999, "k"), "x"), 2999},
		{[]string{"x"}, app("x", flat(2994, "k")), 2999},
		{[]string{"x"}, app("x", flat(2995, "k")), 3000},
		{[]string{"x"}, app("x", flat(2996, "k")), -1},
		{[]string{"x"}, flat(600, "x"), 600*3 + 599},
		{[]string{"x"}, flat(750, "x"), 750*3 + 749},
		{[]string{"x"}, flat(751, "x"), -1},
		{[]string{"x"}, flat(3000, "x"), -1},
		{nil, flat(3000, "x"), 3000},
		// The abstraction of y is ((s A) x) with 3000 or 3001 atoms, and that of x one less.
		{[]string{"x", "y"}, app("y", flat(2993, "k"), app("x", "y")), 2999},
		{[]string{"x", "y"}, app("y", flat(2994, "k"), app("x", "y")), -1},
		{[]string{"y"}, app("y", flat(2994, "k"), app("x", "y")), -1},
		// Nested just enough, and once more, by k or by the way down to a name.
		{[]string{"z"}, nestedRight(1499, "x"), 1501},
		{[]string{"z"}, nestedRight(1500, "x"), -1},
		{[]string{"z"}, nestedRight(1500, "z"), -1},
		{[]string{"z"}, nestedRight(749, "(x z)"), 749*3 + 1},
		{[]string{"z"}, nestedRight(750, "(x z)"), 750*3 + 1},
		{[]string{"z"}, app("x", nestedRight(750, "(x z)")), 751*3 + 1},
		// The abstraction of z nests 1500 or 1501 times, and that of y once less.
		{[]string{"y", "z"}, app("z", nestedRight(1496, "x"), app("y", "z")), 1503},
		{[]string{"y", "z"}, app("z", nestedRight(1497, "x"), app("y", "z")), -1},
		{[]string{"z"}, app("z", nestedRight(1497, "x")), 1503},
	} {
		got, ok := impl.Abstract(c.names, c.s)
		if n := impl.TermSize(got); ok != (c.want != -1) || n != c.want {
			t.Errorf("Abstract returns a term of %d atoms for %q from %q, not %d", n, c.names, brief(c.s), c.want)
		}
	}
}

// Promise 13.
func TestDataOf(t *testing.T) {
	half := app("s", app("k", app("s", identity)), app("s", identity, identity))
	named := app("s", app("k", "s"), app("s", app("k", "k"), app("s", app("k", "s"), app("s", app("k", app("s", identity)), "k"))))
	first, second := app("s", identity, app("k", "k")), app("s", identity, app("k", falseText))
	want := map[string]string{
		"i": identity, "true": "k", "false": falseText,
		"pair": app("s", named, app("k", "k")), "first": first, "second": second, "zero": first,
		"succ": app("s", app("k", app("s", app("s", identity, app("k", falseText)))), "k"),
		"pred": app("s", app("s", first, app("k", identity)), second), "fix": app(half, half),
	}
	for _, word := range dataWords {
		s, ok := impl.DataOf(word)
		if !ok || s != want[word] || !impl.TermClosed(s) {
			t.Errorf("DataOf returns %q for %q, not %q", s, word, want[word])
		}
		if word != "fix" && !impl.TermNormal(s) {
			t.Errorf("DataOf returns %q for %q, which is not normal", s, word)
		}
	}
	for _, word := range append(noTerms(), "I", "i ", " i", "True", "0", "true ", "pairs", "pai", "firs", "first second", "zeros",
		"suc", "k", "s", "x", "run", "join", "quote", "fix ", "fix\n", "true\x00", strings.Repeat("i", 1000000)) {
		if s, ok := impl.DataOf(word); (ok || s != "") && !slices.Contains(dataWords, word) {
			t.Errorf("DataOf returns %q for %q", s, brief(word))
		}
	}
}

func TestDataApplied(t *testing.T) {
	for _, c := range [][2]string{
		{app(data(t, "i"), "x"), "x"}, {app(data(t, "true"), "x", "y"), "x"}, {app(data(t, "false"), "x", "y"), "y"},
		{app(data(t, "pair"), "x", "y"), pairText("x", "y")}, {app(data(t, "pair"), "x", "y", "z"), "((z x) y)"},
		{app(data(t, "first"), pairText("x", "y")), "x"}, {app(data(t, "second"), pairText("x", "y")), "y"},
		{app(data(t, "zero"), numeralText(0)), "k"}, {app(data(t, "zero"), numeralText(1)), falseText},
		{app(data(t, "succ"), "x"), pairText(falseText, "x")}, {app(data(t, "succ"), numeralText(59)), numeralText(60)},
		{app(data(t, "pred"), numeralText(0)), numeralText(0)}, {app(data(t, "pred"), numeralText(30)), numeralText(29)},
		{app(data(t, "fix"), app("k", "x")), "x"},
	} {
		if got, _, ok := impl.NormalOf(c[0]); !ok || got != c[1] {
			t.Errorf("%q comes to %q, not %q", c[0], got, c[1])
		}
	}
}

// someParts are terms to make pairs of.
var someParts = []string{
	"k", "x", "z", "(k z)", "(z y)", identity, "((k x) y)", "((s k) (z1 x))", pairText("x", "z"), pairText("k", numeralText(3)), numeralText(2),
}

// Promise 14.
func TestPairOf(t *testing.T) {
	first, second := data(t, "first"), data(t, "second")
	for _, a := range append(mixedTerms(60), someParts...) {
		for _, b := range append(mixedTerms(40), someParts...) {
			pair, ok := impl.PairOf(a, b)
			if !ok || pair != pairText(a, b) {
				t.Fatalf("PairOf returns %q for %q and %q", pair, a, b)
			}
			if left, right, ok := impl.PairParts(pair); !ok || left != a || right != b {
				t.Fatalf("PairParts returns %q and %q for %q", left, right, pair)
			}
			if !sameNormal(app(first, pair), a) || !sameNormal(app(second, pair), b) {
				t.Fatalf("first and second of %q do not come to both", pair)
			}
		}
	}
}

// A pair is an abstraction of a name that is in neither of both, of all the
// names that there are.
func TestPairOfNames(t *testing.T) {
	var names []string
	for _, letter := range []string{"z", "y", "x", "w", "v", "u"} {
		names = append(names, letter)
		for n := range 10 {
			names = append(names, letter+strconv.Itoa(n))
		}
	}
	all := app(names...)
	if pair, ok := impl.PairOf(all, "k"); !ok || pair != pairText(all, "k") {
		t.Errorf("PairOf returns %q for %d names", brief(pair), len(names))
	}
	if pair, ok := impl.PairOf("x", "z"); !ok || pair != "((s ((s ((s k) k)) (k x))) (k z))" {
		t.Errorf("PairOf returns %q for x and z", pair)
	}
}

func TestPairOfFails(t *testing.T) {
	for _, s := range append(noTerms(), largeNoTerms()...) {
		if pair, ok := impl.PairOf(s, "k"); ok || pair != "" {
			t.Errorf("PairOf returns %q for %q", brief(pair), brief(s))
		}
		if pair, ok := impl.PairOf("k", s); ok || pair != "" {
			t.Errorf("PairOf returns %q for k and %q", brief(pair), brief(s))
		}
		if a, b, ok := impl.PairParts(s); ok || a != "" || b != "" {
			t.Errorf("PairParts returns %q and %q for %q", brief(a), brief(b), brief(s))
		}
	}
	for _, c := range []struct {
		a, b string
		want bool
	}{
		{flat(2000, "z"), flat(993, "k"), true}, {flat(2000, "z"), flat(994, "k"), false},
		{flat(2992, "x"), "k", true}, {flat(2993, "x"), "k", false}, {"k", flat(2993, "x"), false}, {flat(3000, "x"), flat(3000, "x"), false},
		{nestedRight(1496, "z"), "k", true}, {nestedRight(1497, "z"), "k", false},
		{"k", nestedRight(1498, "z"), true}, {"k", nestedRight(1499, "z"), false},
	} {
		pair, ok := impl.PairOf(c.a, c.b)
		if ok != c.want || impl.TermValid(pair) != c.want || c.want && pair != pairText(c.a, c.b) {
			t.Errorf("PairOf returns %q for %q and %q", brief(pair), brief(c.a), brief(c.b))
		}
		if a, b, ok := impl.PairParts(pairText(c.a, c.b)); ok != c.want || ok && (a != c.a || b != c.b) {
			t.Errorf("PairParts returns %q and %q for a pair", brief(a), brief(b))
		}
	}
}

// Promise 15.
func TestPairParts(t *testing.T) {
	list := append(termsUpTo(5, []string{"k", "s", "x"}), mixedTerms(300)...)
	list = append(list, changed(pairText("x", "y"))...)
	list = append(list, changed(pairText(pairText("k", "s"), "(x z)"))...)
	list = append(list, pairText("x", "y")+" ", "("+pairText("x", "y")+")", app("k", pairText("x", "y"), "z"), app(pairText("x", "y"), "z"))
	pairs := 0
	for _, s := range list {
		a, b, ok := impl.PairParts(s)
		if !ok && (a != "" || b != "") {
			t.Fatalf("PairParts returns %q and %q for %q", a, b, s)
		}
		if ok != isPairText(s) {
			t.Fatalf("PairParts is %v for %q", ok, s)
		}
		if !ok {
			continue
		}
		pairs++
		if pair, fine := impl.PairOf(a, b); !fine || pair != s {
			t.Fatalf("PairOf returns %q for the parts of %q", pair, s)
		}
	}
	if pairs == 0 {
		t.Errorf("there are no pairs among the terms")
	}
}

// changed returns a term with something else in the place of each of its parts.
func changed(s string) []string {
	list := []string{s}
	for _, p := range parts(s) {
		for _, other := range []string{"k", "s", "x", identity, "(k s)", "(k (k s))", "(s k)"} {
			list = append(list, s[:p.from]+other+s[p.to:])
		}
	}
	return list
}

// isPairText compares a text with the pair of all that could be its parts.
func isPairText(s string) bool {
	if !impl.TermValid(s) {
		return false
	}
	all := parts(s)
	for _, p := range all {
		for _, q := range all {
			if pairText(s[p.from:p.to], s[q.from:q.to]) == s {
				return true
			}
		}
	}
	return false
}

// Promise 16.
func TestNumberOf(t *testing.T) {
	if impl.NumberMax != 60 {
		t.Errorf("the greatest number with a numeral is %d", impl.NumberMax)
	}
	zero := data(t, "zero")
	for n := range 61 {
		s, ok := impl.NumberOf(n)
		if !ok || s != numeralText(n) {
			t.Fatalf("NumberOf returns %q for %d", s, n)
		}
		if read, ok := impl.NumberRead(s); !ok || read != n {
			t.Errorf("NumberRead returns %d for the numeral of %d", read, n)
		}
		if !impl.TermClosed(s) || !impl.TermNormal(s) {
			t.Errorf("the numeral of %d is not closed and normal", n)
		}
		// On the way there are several numerals, too large together for great ones.
		if bit, ok := impl.BitRead(app(zero, s)); !ok && n <= 50 || ok && (bit == 1) != (n == 0) {
			t.Errorf("zero of the numeral of %d is %d", n, bit)
		}
	}
	for _, n := range []int{-1, -2, -60, 61, 62, 120, 1 << 31, -1 << 31, 1<<63 - 1, -1 << 63} {
		if s, ok := impl.NumberOf(n); ok || s != "" {
			t.Errorf("NumberOf returns %q for %d", brief(s), n)
		}
	}
}

// Promise 17.
func TestNumberRead(t *testing.T) {
	succ, pred := data(t, "succ"), data(t, "pred")
	for n := range 61 {
		for _, s := range []string{numeralText(n), app(identity, numeralText(n)), app("k", numeralText(n), "x"), app("k", app("k", numeralText(n)), "x", "x")} {
			if read, ok := impl.NumberRead(s); !ok || read != n {
				t.Fatalf("NumberRead returns %d for %q, not %d", read, s, n)
			}
			next := app(succ, s)
			if read, ok := impl.NumberRead(next); ok != (n < 60) || ok && read != n+1 || !ok && read != 0 {
				t.Errorf("NumberRead returns %d for succ of %d", read, n)
			}
			// On the way there are several numerals, too large together for great ones.
			if read, ok := impl.NumberRead(app(pred, next)); !ok && n <= 30 || ok && read != n {
				t.Errorf("NumberRead returns %d for pred of succ of %d", read, n)
			}
		}
	}
}

func TestNumberReadFails(t *testing.T) {
	list := append(noTerms(), largeNoTerms()...)
	list = append(list, "k", "s", "x", "(k k)", "((s k) s)", "((s s) k)", falseText, endless, growing,
		numeralText(61), numeralText(62), numeralText(120), numeralText(272), app("k", numeralText(61), "k"),
		app(data(t, "succ"), numeralText(60)), app(numeralText(1), "x"), app("x", numeralText(1)), app("k", numeralText(1)),
		pairText("k", identity), pairText(identity, identity), pairText("x", identity), pairText("(k ((s k) s))", identity),
		pairText(falseText, "k"), pairText(falseText, "x"), pairText(falseText, pairText("k", identity)),
		pairText(falseText, pairText(falseText, falseText)), pairText(falseText, pairText(falseText, pairText("k", numeralText(2)))))
	for _, s := range changed(numeralText(1)) {
		if normal, _, _ := impl.NormalOf(s); normal != numeralText(0) && normal != numeralText(1) {
			list = append(list, s)
		}
	}
	for _, s := range list {
		if n, ok := impl.NumberRead(s); ok || n != 0 {
			t.Errorf("NumberRead returns %d, %v for %q", n, ok, brief(s))
		}
	}
}

// Promise 18.
func TestBitRead(t *testing.T) {
	bits := [2]int{}
	list := append(termsUpTo(6, []string{"k", "s"}), mixedTerms(600)...)
	list = append(list, changed(falseText)...)
	list = append(list, "k", falseText, app(identity, "k"), app(identity, falseText), app("k", falseText, "x"), app("k", app(identity, identity)),
		app(data(t, "zero"), numeralText(0)), app(data(t, "zero"), numeralText(7)), app(data(t, "first"), pairText("k", "x")))
	for _, s := range list {
		normal, _, _ := impl.NormalOf(s)
		want := map[string]int{"k": 1, falseText: 0}
		bit, known := want[normal]
		got, ok := impl.BitRead(s)
		if ok != known || got != bit {
			t.Fatalf("BitRead returns %d, %v for %q", got, ok, s)
		}
		if !ok {
			continue
		}
		bits[bit]++
		if end, _, ok := impl.NormalOf(app(s, "x", "y")); ok && end != []string{"y", "x"}[bit] {
			t.Fatalf("%q applied to x and y comes to %q", s, end)
		}
	}
	if bits[0] < 5 || bits[1] < 5 {
		t.Errorf("the terms have %d times false and true", bits)
	}
}

func TestBitReadFails(t *testing.T) {
	list := append(noTerms(), largeNoTerms()...)
	list = append(list, "s", "x", identity, "(k k)", "(k i)", "(k x)", "(k ((s k) s))", "(s k)", app("k", "x", "k"), app("x", "k"), numeralText(1), endless, growing)
	for _, s := range list {
		if bit, ok := impl.BitRead(s); ok || bit != 0 {
			t.Errorf("BitRead returns %d, %v for %q", bit, ok, brief(s))
		}
	}
}
