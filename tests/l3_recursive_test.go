package tests

import (
	"slices"
	"strings"
	"testing"

	"loop.example/realizers/impl"
)

// functionText is a function text that the tests make of its parts, so that
// what they expect of it needs no reader of texts.
type functionText struct {
	text string
	// letter is c, r or m, and empty for a word.
	letter       string
	parts        []*functionText
	arity, atoms int
}

func functionWord(word string, arity int) *functionText {
	return &functionText{text: word, arity: arity, atoms: 1}
}

var functionWords = []*functionText{
	functionWord("z0", 0), functionWord("z1", 1), functionWord("z2", 2), functionWord("z3", 3), functionWord("inc", 1),
	functionWord("p01", 1), functionWord("p02", 2), functionWord("p12", 2),
	functionWord("p03", 3), functionWord("p13", 3), functionWord("p23", 3),
}

// functionOf makes a function text of parts that must fit the letter.
func functionOf(letter string, parts ...*functionText) *functionText {
	f := &functionText{text: "(" + letter, letter: letter, parts: parts, atoms: 1}
	for _, part := range parts {
		f.text += " " + part.text
		f.atoms += part.atoms
	}
	f.text += ")"
	switch letter {
	case "c":
		f.arity = parts[1].arity
	case "r":
		f.arity = parts[0].arity + 1
	case "m":
		f.arity = parts[0].arity - 1
	}
	return f
}

// total reports whether there is no m.
func (f *functionText) total() bool {
	return f.letter != "m" && !slices.ContainsFunc(f.parts, func(part *functionText) bool { return !part.total() })
}

// functionsUpTo returns all function texts of up to so many atoms.
func functionsUpTo(atoms int) []*functionText {
	var list []*functionText
	bySize := [][]*functionText{nil, functionWords}
	for n := 2; n <= atoms; n++ {
		var found []*functionText
		for _, f := range bySize[n-1] {
			if f.arity > 0 {
				found = append(found, functionOf("m", f))
			}
		}
		for size := 1; size < n-1; size++ {
			for _, f := range bySize[size] {
				for _, g := range bySize[n-1-size] {
					if g.arity == f.arity+2 {
						found = append(found, functionOf("r", f, g))
					}
				}
				for _, inner := range functionLists(bySize, f.arity, n-1-size) {
					found = append(found, functionOf("c", append([]*functionText{f}, inner...)...))
				}
			}
		}
		bySize = append(bySize, found)
	}
	for _, found := range bySize {
		list = append(list, found...)
	}
	return list
}

// functionLists returns all lists of so many function texts of the same arity
// and of so many atoms together.
func functionLists(bySize [][]*functionText, count, atoms int) [][]*functionText {
	if count == 0 || atoms < count {
		return nil
	}
	var lists [][]*functionText
	if count == 1 {
		for _, f := range bySize[atoms] {
			lists = append(lists, []*functionText{f})
		}
		return lists
	}
	for size := 1; size < atoms; size++ {
		for _, rest := range functionLists(bySize, count-1, atoms-size) {
			for _, f := range bySize[size] {
				if f.arity == rest[0].arity {
					lists = append(lists, append([]*functionText{f}, rest...))
				}
			}
		}
	}
	return lists
}

// mixedFunction returns a function text that follows from a seed alone, with
// letters down to a depth.
func mixedFunction(arity, depth int, seed *uint32) *functionText {
	*seed = *seed*1664525 + 1013904223
	high := int(*seed >> 16)
	part := func(arity int) *functionText { return mixedFunction(arity, depth-1, seed) }
	switch kind := high % 16; {
	case depth == 0 || kind < 2:
		var words []*functionText
		for _, f := range functionWords {
			if f.arity == arity {
				words = append(words, f)
			}
		}
		return words[high/16%len(words)]
	case kind < 8 && (arity == 1 || arity == 2):
		return functionOf("r", part(arity-1), part(arity+1))
	case kind == 8 && arity < 3:
		return functionOf("m", part(arity+1))
	}
	parts := []*functionText{part(1 + high/16%3)}
	for range parts[0].arity {
		parts = append(parts, part(arity))
	}
	return functionOf("c", parts...)
}

// mixedFunctions returns function texts of at most 40 atoms.
func mixedFunctions(count int) []*functionText {
	seed := uint32(1)
	var list []*functionText
	for n := 0; len(list) < count; n++ {
		if f := mixedFunction(n%4, 2+n%3, &seed); f.atoms <= 40 {
			list = append(list, f)
		}
	}
	return list
}

// reckon follows the rules of a function text down, and counts the steps. It
// stops for good behind a number of steps.
func (f *functionText) reckon(args []int, steps *int) (int, bool) {
	*steps++
	if *steps > 2*impl.FuelMax {
		return 0, false
	}
	value, ok := f.reckonParts(args, steps)
	return value, ok && value <= 1000
}

func (f *functionText) reckonParts(args []int, steps *int) (int, bool) {
	switch {
	case f.letter == "c":
		var values []int
		for _, g := range f.parts[1:] {
			value, ok := g.reckon(args, steps)
			if !ok {
				return 0, false
			}
			values = append(values, value)
		}
		return f.parts[0].reckon(values, steps)
	case f.letter == "r" && args[0] == 0:
		return f.parts[0].reckon(args[1:], steps)
	case f.letter == "r":
		n := args[0] - 1
		value, ok := f.reckonParts(slices.Concat([]int{n}, args[1:]), steps)
		if !ok {
			return 0, false
		}
		return f.parts[1].reckon(slices.Concat([]int{n, value}, args[1:]), steps)
	case f.letter == "m":
		n, value, ok := 0, 1, true
		for ; ok; n++ {
			value, ok = f.parts[0].reckon(slices.Concat([]int{n}, args), steps)
			if ok && value == 0 {
				return n, true
			}
		}
		return 0, false
	case f.text == "inc":
		return args[0] + 1, true
	case f.text[0] == 'p':
		return args[f.text[1]-'0'], true
	}
	return 0, true
}

// value returns the value and the steps within the limits.
func (f *functionText) value(args []int) (int, int, bool) {
	steps := 0
	value, ok := f.reckon(args, &steps)
	if !ok || steps > impl.FuelMax {
		return 0, 0, false
	}
	return value, steps, true
}

func abstractAllByText(names []string, text string) string {
	for _, name := range slices.Backward(names) {
		text = abstractByText(name, text)
	}
	return text
}

// These are fix and succ, which realizers have in them.
var (
	fixHalf  = app("s", app("k", app("s", identity)), app("s", identity, identity))
	fixText  = app(fixHalf, fixHalf)
	succText = app("s", app("k", app("s", app("s", identity, app("k", falseText)))), "k")
)

// realizer follows the rules of a realizer along texts.
func (f *functionText) realizer() string {
	to := func(g *functionText, terms ...string) string { return app(append([]string{g.realizer()}, terms...)...) }
	letters := []string{"x", "y", "z"}
	switch f.letter {
	case "c":
		names := letters[:f.arity]
		text := f.parts[0].realizer()
		for _, g := range f.parts[1:] {
			text = app(text, to(g, names...))
		}
		return abstractAllByText(names, text)
	case "r":
		names := letters[:f.arity-1]
		less := app("v", falseText)
		p := to(f.parts[0], names...)
		q := to(f.parts[1], slices.Concat([]string{less, app(append([]string{"u", less}, names...)...)}, names)...)
		return app(fixText, abstractAllByText(append([]string{"u", "v"}, names...), app("v", "k", p, q)))
	case "m":
		names := letters[:f.arity]
		r := to(f.parts[0], append([]string{"v"}, names...)...)
		half := abstractAllByText([]string{"u", "v"}, app(r, "k", "v", app("u", app(succText, "v"))))
		return abstractAllByText(names, app(fixText, half, identity))
	}
	switch {
	case f.text == "inc":
		return succText
	case f.text[0] == 'p':
		return abstractAllByText(letters[:f.arity], letters[f.text[1]-'0'])
	}
	return abstractAllByText(letters[:f.arity], identity)
}

// incOf returns inc of function texts, so many times.
func incOf(times int, text string) string {
	return strings.Repeat("(c inc ", times) + text + strings.Repeat(")", times)
}

// argumentLists are lists of arguments for an arity.
func argumentLists(arity int, values ...int) [][]int {
	lists := [][]int{{}}
	for range arity {
		var longer [][]int
		for _, list := range lists {
			for _, n := range values {
				longer = append(longer, slices.Concat(list, []int{n}))
			}
		}
		lists = longer
	}
	return lists
}

const (
	addText  = "(r p01 (c inc p13))"
	mulText  = "(r z1 (c (r p01 (c inc p13)) p23 p13))"
	predText = "(r z0 p02)"
	// The first argument is taken from the second one.
	takeText = "(r p01 (c (r z0 p02) p13))"
)

// largestFunction is a function text of 40 atoms with the largest realizer.
const largestFunction = "(m (r (m (r (m (r (m (r (m (r (m (r (m (r (m (r (m (r (m (m (m z3))) (m z3))) (m z3))) (m z3))) (m z3))) (m z3))) (m z3))) (m z3))) (m z3))) (m z3)))"

// noFunctions are texts that are no function texts.
func noFunctions() []string {
	list := []string{
		"", " ", "z", "z4", "z9", "z00", "z-1", "z+1", "z 0", " z0", "z0 ", "z0\n", "z0\x00", "Z0", "0", "1", "k", "s", "x",
		"inc ", " inc", "Inc", "INC", "in", "incc", "succ", "c", "r", "m", "p", "p0", "p1", "p01 ", "p012", "p-12", "p1 2", "P01",
		"p00", "p10", "p11", "p20", "p21", "p22", "p30", "p31", "p32", "p33", "p04", "p14", "p34", "p44",
		"(", ")", "()", "( )", "(z0)", "(inc)", "(inc z0)", "(p01)", "((c inc z0))", "(c inc z0", "c inc z0)", "(c inc z0))", "(c inc z0) ",
		" (c inc z0)", "(c  inc z0)", "(c inc  z0)", "( c inc z0)", "(c inc z0 )", "(c inc z0)z0", "(c inc z0) z0", "(c\tinc z0)", "(c p02 (c inc z0)\tz0)", "(c p02 (c inc z0)z0)", "(c p02 (c inc z0)  z0)", "(c p02 (c inc z0) z0",
		"(c inc\nz0)", "(cinc z0)", "(c (inc) z0)", "(c inc (z0))", "(c(inc z0))", "(c inc(m inc))", "(c,inc,z0)", "[c inc z0]",
		"(C inc z0)", "(R z0 z2)", "(M inc)", "(a inc z0)", "(z0 inc z0)", "( inc z0)", "(c c z0)", "(c inc c)",
		// Arities that do not fit.
		"(c)", "(c )", "(c z0)", "(c inc)", "(c inc )", "(c z0 z0)", "(c z0 inc)", "(c inc z0 z0)", "(c inc inc inc)", "(c p02 inc)",
		"(c p02 inc z0)", "(c p02 z0 inc)", "(c p02 p02 p03)", "(c p02 inc inc inc)", "(c p03 inc inc)", "(c p03 inc inc p02)",
		"(c p03 p02 inc inc)", "(c p03 inc p02 inc)", "(c z3 z0 z0 z0 z0)", "(c z3 z0 z0)", "(c z2 z0 z0 z0)",
		"(r)", "(r z0)", "(r z0 z0)", "(r z0 z1)", "(r z0 z3)", "(r z1 z1)", "(r z1 z2)", "(r z2 z3)", "(r z2 z2)", "(r z3 z3)",
		"(r z2 z0)", "(r z0 z2 z2)", "(r z1 z3 z3)", "(r z2 z1)", "(r z3 z1)", "(r z2 z4)", "(r z3 z5)",
		"(m)", "(m )", "(m z0)", "(m z1 z1)", "(m (m z1))", "(m (m (m (m z3))))", "(m (c inc z0))",
		// One that does not fit deep in others that do.
		"(c inc (c inc (r z0 (c p02 inc z2))))", "(c inc (r z0 (c inc p22)))", "(m (r z0 (c inc (m inc))))",
		"\xff", "z\xff", "(c inc \xff)", "z\xd9\xa1", "\xc3\xa4", "(c inc z0\x00)",
	}
	for _, s := range noTerms() {
		if s != "" {
			list = append(list, s)
		}
	}
	return append(list, identity, "(k s)", "((k x) y)",
		incOf(20, "z0"), incOf(20, "p01"), "(m "+incOf(19, "(m p02)")+")", incOf(19, "(c p02 z1 z1)"), incOf(1000, "z0"),
		incOf(1000000, "z0"), strings.Repeat("(c ", 10000000), strings.Repeat("(m ", 10000000), strings.Repeat("(", 20000000),
		strings.Repeat("z", 1000000), strings.Repeat(")", 1000000), "(c"+strings.Repeat(" z0", 1000000)+")", "(c p03"+strings.Repeat(" inc", 40)+")")
}

func TestFunctionTexts(t *testing.T) {
	for _, c := range []struct {
		s            string
		arity, atoms int
		total        bool
	}{
		{"z0", 0, 1, true}, {"z1", 1, 1, true}, {"z2", 2, 1, true}, {"z3", 3, 1, true}, {"inc", 1, 1, true},
		{"p01", 1, 1, true}, {"p02", 2, 1, true}, {"p12", 2, 1, true}, {"p03", 3, 1, true}, {"p13", 3, 1, true}, {"p23", 3, 1, true},
		{"(c inc z0)", 0, 3, true}, {"(c inc inc)", 1, 3, true}, {"(c inc p02)", 2, 3, true}, {"(c inc z3)", 3, 3, true},
		{"(c p02 z0 z0)", 0, 4, true}, {"(c z2 p23 p03)", 3, 4, true}, {"(c p23 z0 z0 z0)", 0, 5, true}, {"(c z3 inc p01 z1)", 1, 5, true},
		{"(r z0 z2)", 1, 3, true}, {"(r z1 z3)", 2, 3, true}, {addText, 2, 5, true}, {mulText, 2, 10, true}, {predText, 1, 3, true},
		{takeText, 2, 7, true}, {"(m z1)", 0, 2, false}, {"(m inc)", 0, 2, false}, {"(m p12)", 1, 2, false}, {"(m p03)", 2, 2, false},
		{"(m (m p13))", 1, 3, false}, {"(m (m (m p23)))", 0, 4, false}, {"(c inc (m inc))", 0, 4, false}, {"(c (m p12) z0)", 0, 4, false},
		{"(r (m inc) p02)", 1, 4, false}, {"(r z0 (m z3))", 1, 4, false}, {"(r (r z0 (m p13)) (c p12 p03 (c (m p02) p13)))", 2, 12, false},
		{"(c z2 z0 (m inc))", 0, 5, false}, {incOf(19, "p01"), 1, 39, true}, {"(m " + incOf(19, "p02") + ")", 1, 40, false}, {largestFunction, 0, 40, false},
	} {
		if n := impl.FunctionArity(c.s); n != c.arity {
			t.Errorf("FunctionArity returns %d for %q", n, c.s)
		}
		if n := impl.FunctionSize(c.s); n != c.atoms {
			t.Errorf("FunctionSize returns %d for %q", n, c.s)
		}
		if impl.FunctionTotal(c.s) != c.total {
			t.Errorf("FunctionTotal is not %v for %q", c.total, c.s)
		}
	}
}

func TestFunctionNoTexts(t *testing.T) {
	for _, s := range noFunctions() {
		if n := impl.FunctionArity(s); n != -1 {
			t.Errorf("FunctionArity returns %d for %q", n, brief(s))
		}
		if n := impl.FunctionSize(s); n != -1 {
			t.Errorf("FunctionSize returns %d for %q", n, brief(s))
		}
		if impl.FunctionTotal(s) {
			t.Errorf("FunctionTotal holds for %q", brief(s))
		}
		if r, ok := impl.FunctionRealizer(s); ok || r != "" {
			t.Errorf("FunctionRealizer returns %q for %q", brief(r), brief(s))
		}
		for _, args := range [][]int{nil, {0}, {1, 2}, {0, 0, 0}, {0, 0, 0, 0}} {
			checkFails(t, s, args)
			if r, ok := impl.FunctionApply(s, args); ok || r != "" {
				t.Errorf("FunctionApply returns %q for %q and %d", brief(r), brief(s), args)
			}
		}
	}
}

// checkFails checks that there is neither a value nor a run.
func checkFails(t *testing.T, s string, args []int) {
	t.Helper()
	checkNoValue(t, s, args)
	checkNoRun(t, s, args)
}

func checkNoValue(t *testing.T, s string, args []int) {
	t.Helper()
	if value, steps, ok := impl.FunctionValue(s, args); ok || value != 0 || steps != 0 {
		t.Errorf("FunctionValue returns %d, %d, %v for %q and %d", value, steps, ok, brief(s), args)
	}
}

func checkNoRun(t *testing.T, s string, args []int) {
	t.Helper()
	if value, ok := impl.FunctionRun(s, args); ok || value != 0 {
		t.Errorf("FunctionRun returns %d, %v for %q and %d", value, ok, brief(s), args)
	}
}

// Promises 19, 24 and 25.
func TestFunctionMeasures(t *testing.T) {
	kinds := map[bool]int{}
	for _, f := range append(functionsUpTo(5), mixedFunctions(3000)...) {
		arity, size, total := impl.FunctionArity(f.text), impl.FunctionSize(f.text), impl.FunctionTotal(f.text)
		if arity != f.arity || size != f.atoms || total != f.total() {
			t.Fatalf("the arity is %d, the size %d, total is %v for %q", arity, size, total, f.text)
		}
		if arity < 0 || arity > 3 || size < 1 || size > 40 {
			t.Fatalf("the arity is %d and the size %d for %q", arity, size, f.text)
		}
		kinds[total]++
		next := incOf(1, f.text)
		if f.atoms > 38 {
			if impl.FunctionArity(next) != -1 || impl.FunctionSize(next) != -1 || impl.FunctionTotal(next) {
				t.Fatalf("%q is a function text", next)
			}
			continue
		}
		if impl.FunctionArity(next) != arity || impl.FunctionSize(next) != size+2 || impl.FunctionTotal(next) != total {
			t.Fatalf("inc of %q is another one", f.text)
		}
	}
	if kinds[true] < 1000 || kinds[false] < 1000 {
		t.Errorf("the texts are total or not %v times", kinds)
	}
}

// A text with one byte changed is a function text just if it is one of all.
func TestFunctionChanged(t *testing.T) {
	arities := map[string]int{}
	for _, f := range functionsUpTo(5) {
		arities[f.text] = f.arity
	}
	check := func(s string) {
		want, ok := arities[s]
		if !ok {
			want = -1
		}
		if n := impl.FunctionArity(s); n != want {
			t.Fatalf("FunctionArity returns %d for %q, not %d", n, s, want)
		}
	}
	for _, f := range functionsUpTo(3) {
		for i := range len(f.text) + 1 {
			if i < len(f.text) {
				check(f.text[:i] + f.text[i+1:])
			}
			for _, c := range []byte("() cmrzinp012345\x00") {
				check(f.text[:i] + string(c) + f.text[i:])
				if i < len(f.text) {
					check(f.text[:i] + string(c) + f.text[i+1:])
				}
			}
		}
	}
	for _, f := range functionWords {
		for _, g := range functionWords {
			for _, letter := range []string{"c", "r", "m"} {
				check("(" + letter + " " + f.text + ")")
				check("(" + letter + " " + f.text + " " + g.text + ")")
				for _, h := range functionWords {
					check("(" + letter + " " + f.text + " " + g.text + " " + h.text + ")")
					check("(" + letter + " " + f.text + " " + g.text + " " + h.text + " z1)")
				}
			}
		}
	}
}

func TestFunctionValues(t *testing.T) {
	for _, c := range []struct {
		s            string
		args         []int
		value, steps int
	}{
		{"z0", nil, 0, 1}, {"z0", []int{}, 0, 1}, {"z1", []int{60}, 0, 1}, {"z2", []int{1, 2}, 0, 1}, {"z3", []int{1, 2, 3}, 0, 1},
		{"inc", []int{0}, 1, 1}, {"inc", []int{60}, 61, 1}, {"p01", []int{7}, 7, 1}, {"p02", []int{7, 8}, 7, 1}, {"p12", []int{7, 8}, 8, 1},
		{"p03", []int{7, 8, 9}, 7, 1}, {"p13", []int{7, 8, 9}, 8, 1}, {"p23", []int{7, 8, 9}, 9, 1},
		{"(c inc z0)", nil, 1, 3}, {"(c p02 p12 p02)", []int{3, 4}, 4, 4}, {"(c p12 p12 p02)", []int{3, 4}, 3, 4},
		{"(c p13 inc p01 z1)", []int{5}, 5, 5}, {"(c inc (c inc inc))", []int{5}, 8, 5},
		// F for 0, then G once for each number.
		{"(r z0 p02)", []int{0}, 0, 2}, {"(r z0 p02)", []int{1}, 0, 3}, {"(r z0 p02)", []int{60}, 59, 62},
		{"(r (c inc z0) p12)", []int{4}, 1, 1 + 3 + 4}, {addText, []int{2, 3}, 5, 8}, {addText, []int{0, 3}, 3, 2}, {addText, []int{60, 60}, 120, 182},
		{"(r p01 p03)", []int{5, 9}, 4, 7}, {"(r p01 p13)", []int{5, 9}, 9, 7}, {"(r p01 p23)", []int{5, 9}, 9, 7}, {"(r z1 p23)", []int{0, 9}, 0, 2},
		// Each time c and both arguments, and then 14 or 2 for the sum.
		{mulText, []int{3, 4}, 12, 2 + 3*(3+14)}, {mulText, []int{0, 4}, 0, 2}, {mulText, []int{4, 0}, 0, 2 + 4*(3+2)},
		// Each time c and its argument, and then 2 and as much as this is.
		{takeText, []int{2, 5}, 3, 2 + (2 + 2 + 5) + (2 + 2 + 4)}, {takeText, []int{3, 1}, 0, 2 + (2 + 2 + 1) + 2*(2+2)},
		// As many steps as numbers are tried.
		{"(m z1)", nil, 0, 2}, {"(m p12)", []int{0}, 0, 2}, {"(m z3)", []int{4, 5}, 0, 2}, {"(m p02)", []int{9}, 0, 2},
		{"(m (r (c inc z0) z2))", nil, 1, 1 + 4 + 5}, {"(m " + takeText + ")", []int{2}, 2, 1 + 2 + (2 + 6) + (2 + 6 + 5)},
		{"(c (m p02) (m z1))", nil, 0, 1 + 2 + 2},
	} {
		value, steps, ok := impl.FunctionValue(c.s, c.args)
		if !ok || value != c.value || steps != c.steps {
			t.Errorf("FunctionValue returns %d, %d, %v for %q and %d, not %d and %d", value, steps, ok, c.s, c.args, c.value, c.steps)
		}
	}
}

// Promise 20.
func TestFunctionValueRules(t *testing.T) {
	check := func(f *functionText, args []int) bool {
		value, steps, ok := impl.FunctionValue(f.text, args)
		if wantValue, wantSteps, want := f.value(args); ok != want || value != wantValue || steps != wantSteps {
			t.Fatalf("FunctionValue returns %d, %d, %v for %q and %d, not %d, %d, %v", value, steps, ok, f.text, args, wantValue, wantSteps, want)
		}
		if !ok {
			return false
		}
		if steps < 1 {
			t.Fatalf("FunctionValue takes %d steps for %q", steps, f.text)
		}
		next, nextSteps, fine := impl.FunctionValue(incOf(1, f.text), args)
		if fine && (next != value+1 || nextSteps != steps+2) || !fine && value < 1000 && steps <= impl.FuelMax-2 && f.atoms <= 38 {
			t.Fatalf("FunctionValue returns %d, %d, %v for inc of %q and %d", next, nextSteps, fine, f.text, args)
		}
		return true
	}
	good := 0
	for _, f := range functionsUpTo(4) {
		for _, args := range argumentLists(f.arity, 0, 1, 3, 60) {
			check(f, args)
		}
	}
	for _, f := range mixedFunctions(1000) {
		for _, args := range argumentLists(f.arity, 0, 2, 5) {
			if check(f, args) {
				good++
			}
		}
	}
	if good < 4000 {
		t.Errorf("FunctionValue succeeds %d times", good)
	}
}

// All arguments are reckoned, those that are not used too.
func TestFunctionValueUnused(t *testing.T) {
	for _, c := range []struct {
		s            string
		args         []int
		value, steps int
	}{
		{"(c z1 inc)", []int{5}, 0, 3}, {"(c p02 inc z1)", []int{5}, 6, 4}, {"(c p12 inc z1)", []int{5}, 0, 4},
		{"(c z3 inc (c inc inc) p01)", []int{5}, 0, 1 + 1 + 3 + 1 + 1}, {"(c z1 (r z0 p02))", []int{10}, 0, 1 + 12 + 1},
		{"(c p02 z1 (r z0 p02))", []int{10}, 0, 1 + 1 + 12 + 1},
		// G uses neither what it is for n nor this, but it takes its steps for each number.
		{"(r z0 z2)", []int{9}, 0, 11}, {"(r (c inc z0) z2)", []int{9}, 0, 13}, {"(r z1 z3)", []int{9, 4}, 0, 11}, {"(r inc (c inc p03))", []int{9, 4}, 9, 2 + 27},
		{"(c z1 (m p12))", []int{0}, 0, 4}, {"(c z1 (c inc (m z1)))", nil, 0, 6}, {"(m (c z1 inc))", nil, 0, 4},
	} {
		value, steps, ok := impl.FunctionValue(c.s, c.args)
		if !ok || value != c.value || steps != c.steps {
			t.Errorf("FunctionValue returns %d, %d, %v for %q and %d, not %d and %d", value, steps, ok, c.s, c.args, c.value, c.steps)
		}
	}
	// What is not used has no value here, and the realizer does not ask for it.
	for _, c := range []struct {
		s    string
		args []int
		run  int
	}{
		{"(c z1 (m inc))", nil, 0}, {"(c z1 (m p12))", []int{1}, 0}, {"(c p02 p01 (m p12))", []int{3}, 3}, {"(c p12 (m p12) p01)", []int{3}, 3},
		{"(c p23 (m p12) (m p12) inc)", []int{3}, 4}, {"(r (m inc) p02)", []int{3}, 2}, {"(r (m inc) z2)", []int{1}, 0},
		{"(r (m p12) p03)", []int{2, 7}, 1}, {"(r z0 (c p02 p02 (c (m p12) (c inc p02))))", []int{4}, 3},
		{"(r z1 (c p02 p03 (c (m p12) (c inc p03))))", []int{4, 0}, 3}, {"(m (c z1 (c (m p12) inc)))", nil, 0},
	} {
		checkNoValue(t, c.s, c.args)
		if value, ok := impl.FunctionRun(c.s, c.args); !ok || value != c.run {
			t.Errorf("FunctionRun returns %d, %v for %q and %d, not %d", value, ok, c.s, c.args, c.run)
		}
	}
	checkNoRun(t, "(r (m inc) p02)", []int{0})
	checkNoRun(t, "(c p12 (m p12) (m p12))", []int{3})
}

func TestFunctionArguments(t *testing.T) {
	names := []string{"z0", "z1", "z2", "z3"}
	for arity, s := range names {
		for count := range 6 {
			args := make([]int, count)
			if count != arity {
				checkFails(t, s, args)
				continue
			}
			if _, _, ok := impl.FunctionValue(s, args); !ok {
				t.Errorf("FunctionValue fails for %q", s)
			}
			for i := range args {
				for _, n := range []int{-1, 61, 100, 1000, -60, 1 << 32, 1<<63 - 1, -1 << 63} {
					wrong := slices.Clone(args)
					wrong[i] = n
					checkFails(t, s, wrong)
				}
				right := slices.Clone(args)
				right[i] = 60
				if value, steps, ok := impl.FunctionValue(s, right); !ok || value != 0 || steps != 1 {
					t.Errorf("FunctionValue returns %d, %d, %v for %q and %d", value, steps, ok, s, right)
				}
			}
		}
		checkFails(t, s, make([]int, 1000000))
	}
	checkFails(t, addText, []int{1})
	checkFails(t, addText, []int{1, 2, 3})
	checkFails(t, "(c z1 inc)", []int{61})
	checkFails(t, "(r p01 p13)", []int{0, 61})
	checkFails(t, "(r p01 p03)", []int{61, 0})
}

func TestFunctionArgumentsKept(t *testing.T) {
	args := make([]int, 2, 10)
	args[0], args[1] = 3, 4
	for _, s := range []string{addText, mulText, takeText, "(m (c inc p23))", "(c p02 p12 p02)"} {
		impl.FunctionValue(s, args)
		impl.FunctionApply(s, args)
		impl.FunctionRun(s, args)
		if !slices.Equal(args[:10], []int{3, 4, 0, 0, 0, 0, 0, 0, 0, 0}) {
			t.Fatalf("%q makes %d of its arguments", s, args[:10])
		}
	}
}

func TestFunctionFuel(t *testing.T) {
	if impl.FuelMax != 2000 {
		t.Errorf("the greatest number of steps is %d", impl.FuelMax)
	}
	add18 := incOf(18, "p12")
	for _, c := range []struct {
		s            string
		n            int
		value, steps int
	}{
		{"(r z0 " + add18 + ")", 53, 53 * 18, 2 + 53*37}, {"(r z0 " + add18 + ")", 54, 54 * 18, 2000},
		{"(r (m z1) " + add18 + ")", 53, 53 * 18, 3 + 53*37}, {"(r (m z1) " + add18 + ")", 54, 0, 2001},
		{"(r z0 " + incOf(18, "p02") + ")", 54, 53 + 18, 2000}, {"(r (m z1) " + incOf(18, "p02") + ")", 54, 0, 2001},
		{"(r z0 " + incOf(18, "z2") + ")", 55, 0, 2 + 55*37},
	} {
		value, steps, ok := impl.FunctionValue(c.s, []int{c.n})
		if c.steps > 2000 {
			checkNoValue(t, c.s, []int{c.n})
		} else if !ok || value != c.value || steps != c.steps {
			t.Errorf("FunctionValue returns %d, %d, %v for %q and %d, not %d and %d", value, steps, ok, c.s, c.n, c.value, c.steps)
		}
	}
	for _, s := range []string{"(m inc)", "(m (c inc z1))", "(c inc (m inc))", "(m (c inc (c (m p02) inc)))"} {
		checkNoValue(t, s, nil)
	}
	checkNoValue(t, "(m p12)", []int{1})
	checkNoValue(t, "(m p23)", []int{0, 1})
	checkNoValue(t, mulText, []int{60, 60})
}

// Nothing on the way is greater than 1000.
func TestFunctionGreatValues(t *testing.T) {
	great := "(r p01 " + incOf(16, "p13") + ")"
	for _, c := range []struct {
		s     string
		value int
	}{
		{great, 1000}, {"(c p12 " + great + " p02)", 60}, {"(c z1 " + great + ")", 0}, {"(c (r z0 p02) (c inc " + great + "))", -1},
		{"(c z1 (c inc " + great + "))", -1}, {"(c inc " + great + ")", -1},
	} {
		args := []int{60, 40}
		if c.value == -1 {
			checkNoValue(t, c.s, args)
		} else if value, steps, ok := impl.FunctionValue(c.s, args); !ok || value != c.value || steps < 1982 {
			t.Errorf("FunctionValue returns %d, %d, %v for %q, not %d", value, steps, ok, c.s, c.value)
		}
		// 1001 instead of 1000, with the same number of steps.
		checkNoValue(t, c.s, []int{60, 41})
	}
}

func TestFunctionRealizers(t *testing.T) {
	x := identity
	// The abstraction of v from ((((z1 v) true) v) (u (succ v))) is
	// ((s ((s ((s z1) (k true))) i)) ((s (k u)) succ)), from which u is taken.
	testFront := app("s", app("s", app("s", app("k", identity), app("k", "k")), identity))
	testHalf := app("s", app("k", testFront), app("s", app("s", app("k", "s"), "k"), app("k", succText)))
	for s, want := range map[string]string{
		"z0": identity, "z1": app("k", identity), "z2": app("k", app("k", identity)), "z3": app("k", app("k", app("k", identity))),
		"inc": succText, "p01": x, "p02": "k", "p12": app("k", identity),
		"p03": app("s", app("k", "k"), "k"), "p13": app("k", "k"), "p23": app("k", app("k", identity)),
		"(c inc z0)": app(succText, identity), "(c p02 z0 z0)": app("k", identity, identity),
		"(c inc inc)": app("s", app("k", succText), succText), "(c inc p01)": app("s", app("k", succText), x),
		"(c p02 inc z1)": app("s", app("s", app("k", "k"), succText), app("k", identity)),
		"(m z1)":         app(fixText, testHalf, identity),
	} {
		if got, ok := impl.FunctionRealizer(s); !ok || got != want {
			t.Errorf("FunctionRealizer returns %q for %q, not %q", got, s, want)
		}
	}
	// The abstraction of u and v from (((v true) 0) ((p02 (v false)) (u (v false)))).
	left := app("s", app("s", identity, app("k", "k")), app("k", identity))
	second := app("s", identity, app("k", falseText))
	right := app("s", app("k", app("s", app("s", app("k", "k"), second))), app("s", app("s", app("k", "s"), "k"), app("k", second)))
	want := app(fixText, app("s", app("k", app("s", left)), right))
	if got, ok := impl.FunctionRealizer(predText); !ok || got != want {
		t.Errorf("FunctionRealizer returns %q for %q, not %q", got, predText, want)
	}
}

// Promise 21.
func TestFunctionRealizerRules(t *testing.T) {
	for _, f := range append(functionsUpTo(4), mixedFunctions(400)...) {
		got, ok := impl.FunctionRealizer(f.text)
		if !ok || got != f.realizer() {
			t.Fatalf("FunctionRealizer returns %q for %q, not %q", brief(got), f.text, brief(f.realizer()))
		}
		if !impl.TermClosed(got) {
			t.Fatalf("FunctionRealizer returns %q for %q, which is not closed", brief(got), f.text)
		}
	}
	// No function text has a larger realizer than this one.
	if got, ok := impl.FunctionRealizer(largestFunction); !ok || impl.TermSize(got) != 2536 {
		t.Errorf("FunctionRealizer returns a term of %d atoms", impl.TermSize(got))
	}
}

// Promise 22.
func TestFunctionApply(t *testing.T) {
	for _, f := range append(functionsUpTo(3), mixedFunctions(100)...) {
		realizer, _ := impl.FunctionRealizer(f.text)
		// There may be other numbers of arguments than the arity.
		for count := range 4 {
			for _, args := range argumentLists(count, 0, 7) {
				want := realizer
				for _, n := range args {
					want = app(want, numeralText(n))
				}
				got, ok := impl.FunctionApply(f.text, args)
				if ok != impl.TermValid(want) || ok && got != want || !ok && got != "" {
					t.Fatalf("FunctionApply returns %q for %q and %d", brief(got), f.text, args)
				}
				if !ok || count == 0 {
					continue
				}
				if !impl.TermClosed(got) {
					t.Fatalf("FunctionApply returns %q for %q and %d, which is not closed", brief(got), f.text, args)
				}
				front, fine := impl.FunctionApply(f.text, args[:count-1])
				if !fine || got != app(front, numeralText(args[count-1])) {
					t.Fatalf("FunctionApply returns %q for %q and %d", brief(front), f.text, args[:count-1])
				}
			}
		}
	}
}

func TestFunctionApplyFails(t *testing.T) {
	check := func(s string, args []int) {
		t.Helper()
		if got, ok := impl.FunctionApply(s, args); ok || got != "" {
			t.Errorf("FunctionApply returns %q for %q and %d arguments", brief(got), s, len(args))
		}
	}
	for _, s := range []string{"z0", "z1", "z3", "inc", "p02", addText, "(m inc)"} {
		for _, n := range []int{-1, 61, 62, 1000, -60, 1 << 32, 1<<63 - 1, -1 << 63} {
			for _, args := range [][]int{{n}, {n, 0}, {0, n}, {n, 0, 0}, {0, n, 0}, {0, 0, n}} {
				check(s, args)
			}
		}
		for _, args := range [][]int{{60}, {60, 0}, {0, 60}, {60, 60, 60}, nil, {}} {
			if _, ok := impl.FunctionApply(s, args); !ok {
				t.Errorf("FunctionApply fails for %q and %d", s, args)
			}
		}
		check(s, []int{0, 0, 0, 0})
		check(s, make([]int, 5))
		check(s, make([]int, 1000000))
	}
}

// A realizer fits with some arguments and not with greater ones.
func TestFunctionApplyLimit(t *testing.T) {
	found := map[int]int{}
	part := "(m (r (m (r (m (r (m (r (m (m (m z3))) (m z3))) (m z3))) (m z3))) (m z3)))"
	for pad := range 8 {
		s := strings.Repeat("(c p01 ", pad) + part + strings.Repeat(")", pad)
		realizer, ok := impl.FunctionRealizer(s)
		if !ok {
			t.Fatalf("FunctionRealizer fails for %q", s)
		}
		most := (impl.SizeMax - atomsByText(realizer) - 3*atomsByText(identity)) / 11
		for sum := most - 2; sum <= min(most+2, 180); sum++ {
			args := []int{min(sum, 60), min(max(sum-60, 0), 60), max(sum-120, 0)}
			size := atomsByText(realizer)
			for _, n := range args {
				size += atomsByText(numeralText(n))
			}
			got, fine := impl.FunctionApply(s, args)
			if fine != (size <= 3000) || fine && impl.TermSize(got) != size || !fine && got != "" {
				t.Fatalf("FunctionApply is %v for %d atoms", fine, size)
			}
			found[size]++
		}
	}
	if found[3000] == 0 || found[3001] == 0 {
		t.Errorf("nothing has just 3000 or 3001 atoms")
	}
}

// Promise 23.
func TestFunctionRun(t *testing.T) {
	good := 0
	check := func(f *functionText, args []int) {
		run, ok := impl.FunctionRun(f.text, args)
		applied, _ := impl.FunctionApply(f.text, args)
		if read, fine := impl.NumberRead(applied); ok != fine || run != read {
			t.Fatalf("FunctionRun returns %d, %v for %q and %d, not %d", run, ok, f.text, args, read)
		}
		value, _, fine := impl.FunctionValue(f.text, args)
		if ok && fine && run != value {
			t.Fatalf("FunctionRun returns %d for %q and %d, not %d", run, f.text, args, value)
		}
		if ok && fine {
			good++
		}
	}
	for _, f := range functionsUpTo(3) {
		for _, args := range argumentLists(f.arity, 0, 1, 2, 5) {
			check(f, args)
		}
	}
	for _, f := range mixedFunctions(400) {
		for _, args := range argumentLists(f.arity, 0, 2) {
			check(f, args)
		}
	}
	if good < 1500 {
		t.Errorf("there are %d runs and values", good)
	}
}

func TestFunctionRuns(t *testing.T) {
	for _, c := range []struct {
		s    string
		args []int
		want int
	}{
		{"z0", nil, 0}, {"z3", []int{1, 2, 3}, 0}, {"inc", []int{0}, 1}, {"inc", []int{59}, 60}, {"p01", []int{60}, 60},
		{"p02", []int{7, 8}, 7}, {"p12", []int{7, 8}, 8}, {"p03", []int{7, 8, 9}, 7}, {"p13", []int{7, 8, 9}, 8}, {"p23", []int{7, 8, 9}, 9},
		{"(c inc z0)", nil, 1}, {"(c p02 p12 p02)", []int{3, 4}, 4}, {"(c p13 inc p01 z1)", []int{5}, 5},
		{addText, []int{2, 1}, 3}, {addText, []int{0, 60}, 60}, {addText, []int{3, 0}, 3}, {addText, []int{3, 4}, 7}, {mulText, []int{0, 5}, 0},
		{predText, []int{0}, 0}, {predText, []int{30}, 29}, {takeText, []int{0, 5}, 5}, {takeText, []int{1, 1}, 0},
		{"(r p01 p03)", []int{3, 5}, 2}, {"(r p01 p13)", []int{3, 5}, 5}, {"(r z1 p23)", []int{3, 5}, 5}, {"(r z1 p23)", []int{0, 5}, 0},
		{"(m z1)", nil, 0}, {"(m p12)", []int{0}, 0}, {"(m z3)", []int{4, 5}, 0}, {"(m (r (c inc z0) z2))", nil, 1}, {"(m " + takeText + ")", []int{0}, 0},
	} {
		value, ok := impl.FunctionRun(c.s, c.args)
		if !ok || value != c.want {
			t.Errorf("FunctionRun returns %d, %v for %q and %d, not %d", value, ok, c.s, c.args, c.want)
		}
		if value, _, fine := impl.FunctionValue(c.s, c.args); !fine || value != c.want {
			t.Errorf("FunctionValue returns %d, %v for %q and %d, not %d", value, fine, c.s, c.args, c.want)
		}
	}
	checkFails(t, "(m inc)", nil)
	checkFails(t, "(m p12)", []int{1})
}

// There are values of these, but no runs.
func TestFunctionRunFails(t *testing.T) {
	for _, c := range []struct {
		s        string
		args     []int
		tooLarge bool
	}{
		// Numbers that have no numeral here.
		{"inc", []int{60}, false}, {incOf(2, "inc"), []int{58}, false}, {"(c inc p13)", []int{0, 60, 0}, false},
		// Terms on the way that are too large.
		{addText, []int{4, 0}, true}, {addText, []int{2, 40}, true}, {mulText, []int{1, 1}, true}, {predText, []int{60}, true},
		{takeText, []int{1, 3}, true}, {"(m " + takeText + ")", []int{2}, true},
	} {
		if _, _, ok := impl.FunctionValue(c.s, c.args); !ok {
			t.Errorf("FunctionValue fails for %q and %d", c.s, c.args)
		}
		checkNoRun(t, c.s, c.args)
		applied, ok := impl.FunctionApply(c.s, c.args)
		if !ok || growsTooLarge(applied) != c.tooLarge {
			t.Errorf("FunctionApply returns %q for %q and %d", brief(applied), c.s, c.args)
		}
	}
}

// growsTooLarge steps along a text to its end.
func growsTooLarge(text string) bool {
	for ok := true; ok; {
		if atomsByText(text) > impl.SizeMax {
			return true
		}
		text, ok = stepByText(text)
	}
	return false
}

// FunctionApply takes other numbers of arguments than the arity, the others do
// not.
func TestFunctionOtherArguments(t *testing.T) {
	for _, c := range []struct {
		s    string
		args []int
	}{{"z1", nil}, {"z0", []int{0}}, {"p01", []int{0, 0}}, {"(c inc z0)", []int{1}}, {"p02", []int{1}}, {addText, []int{1, 2, 3}}} {
		if _, ok := impl.FunctionApply(c.s, c.args); !ok {
			t.Errorf("FunctionApply fails for %q and %d", c.s, c.args)
		}
		checkFails(t, c.s, c.args)
	}
}
