package tests

import (
	"slices"
	"strings"
	"testing"

	"loop.example/realizers/impl"
)

// someTerms are terms of many kinds that fit the limits.
func someTerms(t *testing.T) []string {
	list := termsUpTo(4, []string{"k", "s", "x", "y"})
	list = append(list, mixedTerms(600)...)
	return append(list, endless, growing, slowTerm(t, 300),
		"(x00 x0)", "(x000 x)", "((u9 z99) w999)", flat(700, "v12"), nestedRight(1400, "y"), nestedLeft(1400, "y"))
}

func normalTerms(t *testing.T) map[string]string {
	normals := map[string]string{}
	for _, s := range someTerms(t) {
		if normal, _, ok := impl.NormalOf(s); ok {
			normals[s] = normal
		}
	}
	return normals
}

func TestTermTexts(t *testing.T) {
	for _, s := range []string{
		"k", "s", "u", "v", "w", "x", "y", "z", "x0", "x9", "x00", "x07", "x70", "x000", "x123", "z999", "u001",
		"(k s)", "(x1 y2)", "((k s) x)", "(k (s x))", "((x12 y345) (z w0))",
	} {
		if !impl.TermValid(s) {
			t.Errorf("TermValid does not hold for %q", s)
		}
	}
	for _, s := range noTerms() {
		if impl.TermValid(s) {
			t.Errorf("TermValid holds for %q", s)
		}
	}
	for _, s := range largeNoTerms() {
		if impl.TermValid(s) {
			t.Errorf("TermValid holds for %q", brief(s))
		}
	}
}

func TestTermLimits(t *testing.T) {
	if impl.SizeMax != 3000 || impl.StepsMax != 6000 {
		t.Errorf("the limits are %d and %d", impl.SizeMax, impl.StepsMax)
	}
	for _, s := range []string{flat(impl.SizeMax, "x123"), flat(impl.SizeMax, "k")} {
		if !impl.TermValid(s) || impl.TermSize(s) != 3000 {
			t.Errorf("TermSize is %d for a text of 3000 atoms", impl.TermSize(s))
		}
	}
	for _, s := range []string{nestedRight(1500, "x"), nestedLeft(1500, "x"), app(nestedLeft(1499, "x"), nestedRight(1499, "x"))} {
		if !impl.TermValid(s) {
			t.Errorf("TermValid does not hold for 1500 parentheses within each other")
		}
	}
	for _, s := range []string{app("x", nestedRight(1500, "x")), app(nestedRight(1500, "x"), "x"), app(nestedLeft(1500, "x"), "x")} {
		if impl.TermValid(s) {
			t.Errorf("TermValid holds for 1501 parentheses within each other")
		}
	}
}

// Promise 1.
func TestTermSizes(t *testing.T) {
	for _, s := range someTerms(t) {
		if n := impl.TermSize(s); n != atomsByText(s) || n < 1 || n > impl.SizeMax || !impl.TermValid(s) {
			t.Fatalf("TermSize is %d for %q", n, brief(s))
		}
		if n := impl.TermSize(app(s, "k")); n != impl.TermSize(s)+1 {
			t.Fatalf("TermSize is %d for %q applied to k", n, brief(s))
		}
	}
	if n := impl.TermSize(app(flat(impl.SizeMax-1, "x"), "k")); n != impl.SizeMax {
		t.Errorf("TermSize is %d at the limit", n)
	}
	for _, s := range append(noTerms(), largeNoTerms()...) {
		if n := impl.TermSize(s); n != -1 {
			t.Errorf("TermSize is %d for %q", n, brief(s))
		}
	}
}

// Promise 2.
func TestTermNames(t *testing.T) {
	for _, s := range someTerms(t) {
		names, ok := impl.TermNames(s)
		if !ok || len(names) > impl.TermSize(s) || !slices.Equal(names, namesByText(s)) {
			t.Fatalf("TermNames returns %q for %q", names, brief(s))
		}
		put := s
		for _, name := range names {
			put, _ = impl.TermPut(put, name, "k")
		}
		if impl.TermSize(put) != impl.TermSize(s) || !impl.TermClosed(put) {
			t.Fatalf("%q with k for all names is %q", brief(s), brief(put))
		}
	}
	for _, s := range append(noTerms(), largeNoTerms()...) {
		if names, ok := impl.TermNames(s); ok || len(names) != 0 {
			t.Errorf("TermNames returns %q for %q", names, brief(s))
		}
	}
}

// Promise 3.
func TestTermNamesOrder(t *testing.T) {
	// All 6 letters with 0 to 3 digits, the longest names first.
	var many []string
	for _, digits := range []string{"999", "010", "001", "000", "99", "10", "01", "00", "9", "1", "0", ""} {
		for _, letter := range []string{"z", "y", "x", "w", "v", "u"} {
			many = append(many, letter+digits)
		}
	}
	twice := app(app(many...), app(many...))
	if names, ok := impl.TermNames(twice); !ok || !slices.Equal(names, many) {
		t.Errorf("TermNames returns %q for %q", names, many)
	}
	for s, want := range map[string][]string{
		"k": {}, "(s k)": {}, "x": {"x"}, "((y x) (x y))": {"y", "x"}, "(z1 (z01 (z (z001 z1))))": {"z1", "z01", "z", "z001"},
	} {
		if names, ok := impl.TermNames(s); !ok || !slices.Equal(names, want) {
			t.Errorf("TermNames returns %q for %q", names, s)
		}
	}
	for _, s := range someTerms(t) {
		names, _ := impl.TermNames(s)
		for i, name := range names {
			if slices.Contains(names[:i], name) {
				t.Fatalf("TermNames returns %q twice for %q", name, brief(s))
			}
		}
		if len(names) == 0 {
			continue
		}
		put, _ := impl.TermPut(s, names[0], "s")
		if rest, ok := impl.TermNames(put); !ok || !slices.Equal(rest, names[1:]) {
			t.Fatalf("TermNames returns %q for %q with s for the first name", rest, brief(s))
		}
	}
}

// The result of a call is memory of its own.
func TestTermNamesMemory(t *testing.T) {
	first, _ := impl.TermNames("(x y)")
	first[0] = "z"
	first = append(first[:1], "z")
	if again, _ := impl.TermNames("(x y)"); !slices.Equal(again, []string{"x", "y"}) {
		t.Errorf("TermNames returns %q behind %q", again, first)
	}
}

// Promise 4.
func TestTermClosed(t *testing.T) {
	for _, s := range append(termsUpTo(5, []string{"k", "s"}), someTerms(t)...) {
		if impl.TermClosed(s) != (len(namesByText(s)) == 0) {
			t.Fatalf("TermClosed is %v for %q", impl.TermClosed(s), brief(s))
		}
		if !impl.TermClosed(s) {
			continue
		}
		if put, ok := impl.TermPut(s, "x", "k"); !ok || put != s {
			t.Fatalf("TermPut returns %q for %q", put, brief(s))
		}
		if normal, _, ok := impl.NormalOf(s); ok && !impl.TermClosed(normal) {
			t.Fatalf("NormalOf returns %q for %q", normal, brief(s))
		}
	}
	for _, s := range append(noTerms(), largeNoTerms()...) {
		if impl.TermClosed(s) {
			t.Errorf("TermClosed holds for %q", brief(s))
		}
	}
}

func TestTermPutTexts(t *testing.T) {
	for _, c := range [][4]string{
		{"x", "x", "(k s)", "(k s)"}, {"(x y)", "x", "k", "(k y)"}, {"(x y)", "y", "(x y)", "(x (x y))"},
		{"(x (x x))", "x", "(x s)", "((x s) ((x s) (x s)))"}, {"((x1 x) (x01 x001))", "x1", "k", "((k x) (x01 x001))"},
		{"((x1 x) (x01 x001))", "x01", "k", "((x1 x) (k x001))"}, {"((x1 x) (x01 x001))", "x001", "k", "((x1 x) (x01 k))"},
		{"((x1 x) (x01 x001))", "x", "k", "((x1 k) (x01 x001))"}, {"(k x)", "y", "s", "(k x)"}, {"k", "z999", "x", "k"},
		{"((k x) y)", "x", "((k y) y)", "((k ((k y) y)) y)"},
	} {
		if s, ok := impl.TermPut(c[0], c[1], c[2]); !ok || s != c[3] {
			t.Errorf("TermPut returns %q for %q", s, c)
		}
	}
}

func TestTermPutFails(t *testing.T) {
	wrong := append(noTerms(), largeNoTerms()...)
	for _, s := range wrong {
		if r, ok := impl.TermPut(s, "x", "k"); ok || r != "" {
			t.Errorf("TermPut returns %q for the text %q", brief(r), brief(s))
		}
		if r, ok := impl.TermPut("x", "x", s); ok || r != "" {
			t.Errorf("TermPut returns %q with %q put", brief(r), brief(s))
		}
		if r, ok := impl.TermPut("y", "x", s); ok || r != "" {
			t.Errorf("TermPut returns %q with %q put for no name", brief(r), brief(s))
		}
		if r, ok := impl.TermPut("x", s, "k"); ok || r != "" {
			t.Errorf("TermPut returns %q for the name %q", brief(r), brief(s))
		}
	}
	for _, name := range []string{"k", "s", "(x y)", "x ", "X"} {
		if r, ok := impl.TermPut("(x k)", name, "k"); ok || r != "" {
			t.Errorf("TermPut returns %q for the name %q", r, name)
		}
	}
}

func TestTermPutLimits(t *testing.T) {
	if s, ok := impl.TermPut(flat(30, "x"), "x", flat(100, "y")); !ok || impl.TermSize(s) != 3000 {
		t.Errorf("TermPut fails for a result of 3000 atoms")
	}
	if s, ok := impl.TermPut(app(flat(30, "x"), "k"), "x", flat(100, "y")); ok || s != "" {
		t.Errorf("TermPut returns a result of 3001 atoms")
	}
	if s, ok := impl.TermPut(flat(3000, "x"), "x", flat(3000, "y")); ok || s != "" {
		t.Errorf("TermPut returns a result of 9000000 atoms")
	}
	if s, ok := impl.TermPut(nestedRight(700, "z"), "z", nestedLeft(800, "y")); !ok || !impl.TermValid(s) {
		t.Errorf("TermPut fails for a result of 1500 parentheses within each other")
	}
	if s, ok := impl.TermPut(nestedRight(700, "z"), "z", nestedLeft(801, "y")); ok || s != "" {
		t.Errorf("TermPut returns a result of 1501 parentheses within each other")
	}
}

// Promise 5.
func TestTermPut(t *testing.T) {
	for _, s := range someTerms(t) {
		for _, by := range []string{"k", "x", "(y x)", "((k s) y)", "((s k) s)"} {
			put, ok := impl.TermPut(s, "x", by)
			if !ok {
				continue
			}
			has := slices.Contains(namesByText(s), "x") && slices.Contains(namesByText(by), "x")
			if slices.Contains(namesByText(put), "x") != has {
				t.Fatalf("TermPut returns %q for %q and %q", brief(put), brief(s), by)
			}
			one, _, ok := impl.NormalOf(put)
			behind, _, okBehind := impl.NormalOf(s)
			if !ok || !okBehind {
				continue
			}
			behind, ok = impl.TermPut(behind, "x", by)
			if !ok {
				continue
			}
			if two, _, ok := impl.NormalOf(behind); ok && one != two {
				t.Fatalf("%q with %q put comes to %q, behind its steps to %q", brief(s), by, one, two)
			}
		}
	}
}

func TestTermStepTexts(t *testing.T) {
	for _, c := range [][2]string{
		{"((k x) y)", "x"}, {"(((s x) y) z)", "((x z) (y z))"}, {"((k k) s)", "k"},
		{"((k ((k x) y)) z)", "((k x) y)"}, {"((k x) ((k y) z))", "x"},
		{"(((k x) y) z)", "(x z)"}, {"((((k k) x) y) z)", "((k y) z)"}, {"((((s x) y) z) w)", "(((x z) (y z)) w)"},
		{"(((s ((k x) y)) z) w)", "((((k x) y) w) (z w))"}, {"(((s x) y) ((k z) w))", "((x ((k z) w)) (y ((k z) w)))"},
		{"(((s ((k x) y)) ((k y) z)) ((k z) w))", "((((k x) y) ((k z) w)) (((k y) z) ((k z) w)))"},
		{"(((k x) y) ((k y) z))", "(x ((k y) z))"}, {"((x ((k y) z)) ((k u) v))", "((x y) ((k u) v))"},
		{"(x (((s k) k) y))", "(x ((k y) (k y)))"}, {"(k ((k s) x))", "(k s)"}, {"((s ((k s) x)) ((k k) x))", "((s s) ((k k) x))"},
		{"((s x) (y ((k s) x)))", "((s x) (y s))"}, {"(((s k) k) (((s k) k) x))", "((k (((s k) k) x)) (k (((s k) k) x)))"},
		{"((((k s) x) ((k y) z)) u)", "((s ((k y) z)) u)"}, {"(((x k) y) ((k y) z))", "(((x k) y) y)"},
	} {
		if s, ok := impl.TermStep(c[0]); !ok || s != c[1] {
			t.Errorf("TermStep returns %q for %q, not %q", s, c[0], c[1])
		}
	}
}

// The redex is the one that begins first, of two that begin at the same place
// the larger one, for all terms of at most 5 atoms and for larger ones.
func TestTermStepRedex(t *testing.T) {
	for _, s := range append(termsUpTo(5, []string{"k", "s", "x", "y"}), mixedTerms(3000)...) {
		want, wantOk := stepByText(s)
		if next, ok := impl.TermStep(s); next != want || ok != wantOk {
			t.Fatalf("TermStep returns %q for %q, not %q", next, s, want)
		}
		if impl.TermNormal(s) == wantOk {
			t.Fatalf("TermNormal is %v for %q", !wantOk, s)
		}
	}
}

func TestTermStepFails(t *testing.T) {
	for _, s := range append(noTerms(), largeNoTerms()...) {
		if next, ok := impl.TermStep(s); ok || next != "" {
			t.Errorf("TermStep returns %q for %q", brief(next), brief(s))
		}
	}
	for _, s := range []string{"k", "s", "x", "(k x)", "((s x) y)", "(((x k) k) s)", "((x y) (k s))"} {
		if next, ok := impl.TermStep(s); ok || next != "" {
			t.Errorf("TermStep returns %q for the normal %q", next, s)
		}
	}
}

// doubling returns a term whose step gives two terms of an argument.
func doubling(argument string) string {
	return app("s", "x", "y", argument)
}

func TestTermStepLimits(t *testing.T) {
	if s, ok := impl.TermStep(doubling(flat(1499, "x"))); !ok || impl.TermSize(s) != 3000 {
		t.Errorf("TermStep fails for a result of 3000 atoms")
	}
	large := app(doubling(flat(1499, "x")), "x")
	if s, ok := impl.TermStep(large); ok || s != "" {
		t.Errorf("TermStep returns a result of 3001 atoms")
	}
	if s, n, ok := impl.StepMany(large, 5); !ok || n != 0 || s != large {
		t.Errorf("StepMany makes %d steps where the first one is too large", n)
	}
	if s, n, ok := impl.NormalOf(large); ok || n != 0 || s != "" {
		t.Errorf("NormalOf comes to a normal term by way of 3001 atoms")
	}
	if impl.TermNormal(large) {
		t.Errorf("TermNormal holds where a step is too large")
	}
	dropped := app("k", "x", doubling(flat(2500, "x")))
	if s, n, ok := impl.NormalOf(dropped); !ok || n != 1 || s != "x" {
		t.Errorf("NormalOf returns %q behind %d steps for what is dropped", s, n)
	}
	if s, ok := impl.TermStep(app("k", flat(2999, "x"), "y")); ok || s != "" {
		t.Errorf("TermStep returns a step of what has 3001 atoms")
	}
	if s, ok := impl.TermStep(app("k", flat(2998, "x"), "y")); !ok || impl.TermSize(s) != 2998 {
		t.Errorf("TermStep fails for 3000 atoms")
	}
}

func TestTermStepNesting(t *testing.T) {
	deep := app("x", app("s", "x", "x", nestedRight(1497, "x")))
	if s, ok := impl.TermStep(deep); !ok || s != app("x", app(app("x", nestedRight(1497, "x")), app("x", nestedRight(1497, "x")))) {
		t.Errorf("TermStep fails for a result of 1500 parentheses within each other")
	}
	s := app("s", "x", "y", nestedRight(1499, "x"))
	if next, ok := impl.TermStep(s); ok || next != "" {
		t.Errorf("TermStep returns a result of 1501 parentheses within each other")
	}
	if last, n, ok := impl.StepMany(s, 1); !ok || n != 0 || last != s {
		t.Errorf("StepMany makes %d steps where the first one nests too much", n)
	}
	if last, n, ok := impl.NormalOf(s); ok || n != 0 || last != "" {
		t.Errorf("NormalOf comes to 1501 parentheses within each other")
	}
	s = app("s", "x", "y", nestedRight(1498, "x"))
	if last, n, ok := impl.NormalOf(s); !ok || n != 1 || !impl.TermValid(last) {
		t.Errorf("NormalOf fails for 1500 parentheses within each other")
	}
}

// Promise 6.
func TestTermStep(t *testing.T) {
	for _, s := range someTerms(t) {
		next, ok := impl.TermStep(s)
		if !ok {
			continue
		}
		for _, name := range namesByText(next) {
			if !slices.Contains(namesByText(s), name) {
				t.Fatalf("TermStep of %q has the name %q", brief(s), name)
			}
		}
		one, n, ok := impl.NormalOf(s)
		two, m, okNext := impl.NormalOf(next)
		if ok && (!okNext || one != two || n != m+1) {
			t.Fatalf("NormalOf returns %q behind %d steps and %q behind %d for a step of %q", one, n, two, m, brief(s))
		}
	}
}

// Promise 7.
func TestStepMany(t *testing.T) {
	for _, s := range someTerms(t) {
		text, steps := s, 0
		for n := range 30 {
			last, count, ok := impl.StepMany(s, n)
			if !ok || last != text || count != steps {
				t.Fatalf("StepMany returns %q behind %d of %d steps for %q, not %q", brief(last), count, n, brief(s), brief(text))
			}
			next, ok := impl.TermStep(text)
			if ok {
				text, steps = next, steps+1
			}
			if count < n && ok {
				t.Fatalf("StepMany stops behind %d of %d steps for %q", count, n, brief(s))
			}
		}
	}
}

func TestStepManyAll(t *testing.T) {
	for _, s := range append(mixedTerms(500), endless, growing, slowTerm(t, 700)) {
		last, count, ok := impl.StepMany(s, impl.StepsMax)
		if !ok {
			t.Fatalf("StepMany fails for %q", s)
		}
		_, more := impl.TermStep(last)
		if count < impl.StepsMax && more || count > impl.StepsMax {
			t.Fatalf("StepMany stops behind %d steps for %q", count, s)
		}
	}
	if _, n, ok := impl.StepMany(endless, impl.StepsMax); !ok || n != impl.StepsMax {
		t.Errorf("StepMany makes %d steps of an endless term", n)
	}
	last, n, ok := impl.StepMany(growing, impl.StepsMax)
	if !ok || n == 0 || n >= impl.StepsMax || impl.TermNormal(last) {
		t.Errorf("StepMany makes %d steps of a growing term", n)
	}
	if next, ok := stepByText(last); !ok || atomsByText(next) <= impl.SizeMax {
		t.Errorf("StepMany stops at %d atoms of a growing term", impl.TermSize(last))
	}
}

func TestStepManyFails(t *testing.T) {
	for _, n := range []int{-1, -6000, impl.StepsMax + 1, 1 << 62, -1 << 63} {
		for _, s := range []string{"k", "((k x) y)", endless} {
			if last, count, ok := impl.StepMany(s, n); ok || last != "" || count != 0 {
				t.Errorf("StepMany returns %q behind %d of %d steps", last, count, n)
			}
		}
	}
	for _, s := range append(noTerms(), largeNoTerms()...) {
		for _, n := range []int{0, 1, impl.StepsMax} {
			if last, count, ok := impl.StepMany(s, n); ok || last != "" || count != 0 {
				t.Errorf("StepMany returns %q behind %d steps for %q", brief(last), count, brief(s))
			}
		}
	}
}

// Promise 8.
func TestTermNormal(t *testing.T) {
	for _, s := range someTerms(t) {
		_, redex := stepByText(s)
		if impl.TermNormal(s) == redex {
			t.Fatalf("TermNormal is %v for %q", !redex, brief(s))
		}
		if redex {
			continue
		}
		if next, ok := impl.TermStep(s); ok || next != "" {
			t.Fatalf("TermStep returns %q for the normal %q", brief(next), brief(s))
		}
		if normal, n, ok := impl.NormalOf(s); !ok || normal != s || n != 0 {
			t.Fatalf("NormalOf returns %q behind %d steps for the normal %q", brief(normal), n, brief(s))
		}
	}
	for _, s := range append(noTerms(), largeNoTerms()...) {
		if impl.TermNormal(s) {
			t.Errorf("TermNormal holds for %q", brief(s))
		}
	}
}

// Promise 9.
func TestNormalOf(t *testing.T) {
	for s, want := range normalTerms(t) {
		normal, n, ok := impl.NormalOf(s)
		if _, redex := stepByText(normal); !ok || normal != want || redex || !impl.TermNormal(normal) {
			t.Fatalf("NormalOf returns %q for %q", brief(normal), brief(s))
		}
		text := s
		for range n {
			text, _ = stepByText(text)
		}
		if last, count, ok := impl.StepMany(s, n); !ok || count != n || last != normal || text != normal {
			t.Fatalf("StepMany returns %q behind %d steps of %d for %q", brief(last), count, n, brief(s))
		}
	}
	for _, s := range append(append(noTerms(), largeNoTerms()...), endless, growing, app("x", endless), app("k", growing)) {
		if normal, n, ok := impl.NormalOf(s); ok || normal != "" || n != 0 {
			t.Errorf("NormalOf returns %q behind %d steps for %q", brief(normal), n, brief(s))
		}
	}
}

func TestNormalOfLimits(t *testing.T) {
	s := slowTerm(t, impl.StepsMax)
	normal, n, ok := impl.NormalOf(s)
	if !ok || n != impl.StepsMax || !impl.TermNormal(normal) {
		t.Fatalf("NormalOf returns %d steps of a term that takes 6000", n)
	}
	if last, count, ok := impl.StepMany(s, impl.StepsMax); !ok || count != impl.StepsMax || last != normal {
		t.Errorf("StepMany makes %d steps of a term that takes 6000", count)
	}
	for _, more := range []string{slowTerm(t, impl.StepsMax+1), app(s, "((k x) y)")} {
		if last, n, ok := impl.NormalOf(more); ok || n != 0 || last != "" {
			t.Errorf("NormalOf returns %d steps of a term that takes 6001", n)
		}
		last, count, ok := impl.StepMany(more, impl.StepsMax)
		if !ok || count != impl.StepsMax || impl.TermNormal(last) {
			t.Errorf("StepMany makes %d steps of a term that takes 6001", count)
		}
		if last, ok = impl.TermStep(last); !ok || !impl.TermNormal(last) {
			t.Errorf("a step behind 6000 is not the last one of 6001")
		}
	}
	if last, ok := impl.ApplyOf("x", s); !ok || last != app("x", normal) {
		t.Errorf("ApplyOf fails for a term that takes 6000 steps")
	}
	if last, ok := impl.ApplyOf(s, "((k x) y)"); ok || last != "" {
		t.Errorf("ApplyOf returns %q for a term that takes 6001 steps", brief(last))
	}
}

// Promise 10.
func TestApplyOf(t *testing.T) {
	small := normalTerms(t)
	for s, normal := range small {
		function, ok := impl.ApplyOf("k", s)
		if !ok || function != app("k", normal) || !impl.TermNormal(function) {
			t.Fatalf("ApplyOf of k returns %q for %q", brief(function), brief(s))
		}
		for _, second := range []string{"y", "(s k)", endless} {
			if first, ok := impl.ApplyOf(function, second); !ok || first != normal {
				t.Fatalf("ApplyOf of k to %q and %q is %q", brief(s), second, brief(first))
			}
		}
	}
	for _, c := range [][3]string{
		{identity, "x", "x"}, {"x", "y", "(x y)"}, {"((k x) y)", "((k z) y)", "(x z)"},
		{"((s x) y)", "z", "((x z) (y z))"}, {"(s k)", "k", identity}, {"(k k)", "s", "k"}, {"((s k) s)", "((s s) k)", "((s s) k)"},
	} {
		if s, ok := impl.ApplyOf(c[0], c[1]); !ok || s != c[2] {
			t.Errorf("ApplyOf returns %q for %q", s, c)
		}
	}
	for _, s := range mixedTerms(300) {
		for _, other := range []string{"(k y)", "((s k) x)", "z"} {
			spread, ok := impl.ApplyOf(app("s", s, other), "w")
			if both, _, okBoth := impl.NormalOf(app(s, "w", app(other, "w"))); ok && okBoth && spread != both {
				t.Fatalf("ApplyOf of s to %q and %q is %q, not %q", s, other, spread, both)
			}
		}
	}
}

func TestApplyOfFails(t *testing.T) {
	for _, s := range append(noTerms(), largeNoTerms()...) {
		for _, c := range [][2]string{{s, "k"}, {"k", s}, {s, s}, {"(k x)", s}} {
			if r, ok := impl.ApplyOf(c[0], c[1]); ok || r != "" {
				t.Errorf("ApplyOf returns %q for %q and %q", brief(r), brief(c[0]), brief(c[1]))
			}
		}
	}
	// The texts are none, though what stands together is one.
	if r, ok := impl.ApplyOf("x y) (x", "k"); ok || r != "" {
		t.Errorf("ApplyOf returns %q for two texts of no term each", r)
	}
	if r, ok := impl.ApplyOf("(x y", "k) z"); ok || r != "" {
		t.Errorf("ApplyOf returns %q for two texts of no term each", r)
	}
	for _, c := range [][2]string{{identity, endless}, {endless, "k"}, {"((s (x x)) s)", growing}} {
		if r, ok := impl.ApplyOf(c[0], c[1]); ok || r != "" {
			t.Errorf("ApplyOf returns %q for %q", brief(r), c)
		}
	}
}

func TestApplyOfLimits(t *testing.T) {
	if r, ok := impl.ApplyOf(flat(1700, "x"), flat(1300, "y")); !ok || impl.TermSize(r) != 3000 {
		t.Errorf("ApplyOf fails for 3000 atoms")
	}
	for _, c := range [][2]string{{flat(1700, "x"), flat(1301, "y")}, {flat(3000, "x"), "y"}, {"(k x)", flat(2999, "y")}} {
		if r, ok := impl.ApplyOf(c[0], c[1]); ok || r != "" {
			t.Errorf("ApplyOf returns %q for 3001 atoms", brief(r))
		}
	}
	if r, ok := impl.ApplyOf("(k x)", nestedRight(1499, "y")); !ok || r != "x" {
		t.Errorf("ApplyOf returns %q for 1500 parentheses within each other", brief(r))
	}
	for _, c := range [][2]string{{"(k x)", nestedRight(1500, "y")}, {nestedLeft(1500, "y"), "x"}} {
		if r, ok := impl.ApplyOf(c[0], c[1]); ok || r != "" {
			t.Errorf("ApplyOf returns %q for 1501 parentheses within each other", brief(r))
		}
	}
}

// Promise 11.
func TestTermEqual(t *testing.T) {
	list := termsUpTo(3, []string{"k", "s", "x"})
	list = append(list, mixedTerms(60)...)
	list = append(list, endless, growing, app(identity, "x"), app("k", "x", endless), app(identity, growing))
	normal := map[string]string{}
	for _, s := range list {
		if r, _, ok := impl.NormalOf(s); ok {
			normal[s] = r
		}
	}
	equal := 0
	for _, s := range list {
		for _, u := range list {
			want := normal[s] != "" && normal[s] == normal[u]
			if impl.TermEqual(s, u) != want || impl.TermEqual(u, s) != want {
				t.Fatalf("TermEqual is not %v for %q and %q", want, s, u)
			}
			if !want || s == u {
				continue
			}
			equal++
			_, _, ok := impl.NormalOf(app(s, "k"))
			_, _, okOther := impl.NormalOf(app(u, "k"))
			if ok && okOther && !impl.TermEqual(app(s, "k"), app(u, "k")) {
				t.Fatalf("TermEqual does not hold for %q and %q applied to k", s, u)
			}
		}
	}
	if equal == 0 {
		t.Errorf("no two of the terms are equal")
	}
}

func TestTermEqualTexts(t *testing.T) {
	for _, c := range [][2]string{
		{"x", "x"}, {"(((s k) s) x)", "x"}, {app(identity, "(x y)"), "((k (x y)) " + endless + ")"}, {"((k k) s)", "((k k) x)"},
	} {
		if !impl.TermEqual(c[0], c[1]) {
			t.Errorf("TermEqual does not hold for %q", c)
		}
	}
	for _, c := range [][2]string{
		{"x", "y"}, {"x1", "x01"}, {"(x y)", "(y x)"}, {identity, "((s k) s)"}, {"((x y) z)", "(x (y z))"}, {endless, endless}, {growing, growing},
	} {
		if impl.TermEqual(c[0], c[1]) {
			t.Errorf("TermEqual holds for %q", c)
		}
	}
	for _, s := range append(noTerms(), largeNoTerms()...) {
		if impl.TermEqual(s, s) || impl.TermEqual(s, "k") || impl.TermEqual("k", s) {
			t.Errorf("TermEqual holds for %q", brief(s))
		}
	}
}

// No function changes what it returns from call to call.
func TestCombinatorsAgain(t *testing.T) {
	for _, s := range []string{app(identity, "x"), endless, strings.Repeat("(k ", 7)} {
		one, n, ok := impl.NormalOf(s)
		impl.StepMany(app("x", identity), 9)
		if two, m, okAgain := impl.NormalOf(s); one != two || n != m || ok != okAgain {
			t.Errorf("NormalOf returns %q and then %q for %q", one, two, s)
		}
	}
}
