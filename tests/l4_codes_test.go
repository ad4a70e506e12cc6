package tests

import (
	"slices"
	"strings"
	"testing"

	"loop.example/realizers/impl"
)

const (
	kCodeText = "((s (k k)) k)"
	sCodeText = "(k k)"
)

// joinedText is the code of an application, of both codes.
func joinedText(function, argument string) string {
	return app("k", app("k", pairText(function, argument)))
}

// codeText is the code of a closed term.
func codeText(text string) string {
	all := parts(text)
	return codePart(text, all[len(all)-1])
}

func codePart(text string, p *part) string {
	switch {
	case p.isAtom(text, "k"):
		return kCodeText
	case p.isAtom(text, "s"):
		return sCodeText
	}
	return joinedText(codePart(text, p.left), codePart(text, p.right))
}

// codeByRules follows the abstractions of a code along texts.
func codeByRules(text string) string {
	names := []string{"x", "y", "z"}
	all := parts(text)
	whole := all[len(all)-1]
	switch {
	case whole.isAtom(text, "k"):
		return abstractAllByText(names, "x")
	case whole.isAtom(text, "s"):
		return abstractAllByText(names, "y")
	}
	c := codeByRules(text[whole.left.from:whole.left.to])
	d := codeByRules(text[whole.right.from:whole.right.to])
	return abstractAllByText(names, app("z", c, d))
}

// codedByText returns what a term is the code of, told by its text alone.
func codedByText(s string) (string, bool) {
	switch s {
	case kCodeText:
		return "k", true
	case sCodeText:
		return "s", true
	}
	c := partFrom(s, "(k (k ((s ((s "+identity+") (k ")
	if c == "" {
		return "", false
	}
	d := partFrom(s, "(k (k ((s ((s "+identity+") (k "+c+"))) (k ")
	if d == "" || joinedText(c, d) != s {
		return "", false
	}
	function, ok := codedByText(c)
	if !ok {
		return "", false
	}
	argument, ok := codedByText(d)
	if !ok {
		return "", false
	}
	return app(function, argument), true
}

// partFrom returns the part of a term whose text stands behind a start of it,
// the largest one, or an empty text.
func partFrom(s, start string) string {
	if !strings.HasPrefix(s, start) {
		return ""
	}
	found := ""
	for _, p := range parts(s) {
		if p.from == len(start) && p.to-p.from > len(found) {
			found = s[p.from:p.to]
		}
	}
	return found
}

// nestingByText is the number of parentheses within each other.
func nestingByText(s string) int {
	deepest, around := 0, 0
	for _, c := range s {
		switch c {
		case '(':
			around++
		case ')':
			around--
		}
		deepest = max(deepest, around)
	}
	return deepest
}

// closedTerm returns a term of k and s that follows from a seed alone.
func closedTerm(size int, seed *uint32) string {
	*seed = *seed*1664525 + 1013904223
	high := int(*seed >> 16)
	if size == 1 {
		return []string{"k", "s"}[high%2]
	}
	left := 1 + high%(size-1)
	return app(closedTerm(left, seed), closedTerm(size-left, seed))
}

// closedTerms are all closed terms of a few atoms and some of more.
func closedTerms(size, more int) []string {
	seed := uint32(4)
	list := termsUpTo(size, []string{"k", "s"})
	for n := range more {
		list = append(list, closedTerm(size+1+n%30, &seed))
	}
	return append(list, identity, falseText, numeralText(1), numeralText(3), endless, growing, fixText, succText)
}

// notClosed are terms that have names, and so no codes.
func notClosed() []string {
	return []string{
		"x", "u", "z999", "(k x)", "(x k)", "((s k) y0)", "((k k) x)", "(k (s (k v01)))", "((s (k k)) x)", "(w k)",
		pairText("x", "k"), joinedText("x", sCodeText), joinedText(kCodeText, "y"), app("k", "k", "x"), flat(200, "x"),
	}
}

// noClosed are all kinds of texts that are no closed terms.
func noClosed() []string {
	return slices.Concat(noTerms(), largeNoTerms(), notClosed())
}

// code returns the code of a term that must have one.
func code(t *testing.T, s string) string {
	c, ok := impl.CodeOf(s)
	if !ok {
		t.Fatalf("CodeOf fails for %q", brief(s))
	}
	return c
}

// codeWord returns the term of a word that must have one.
func codeWord(t *testing.T, word string) string {
	s, ok := impl.CodeWords(word)
	if !ok {
		t.Fatalf("CodeWords fails for %q", word)
	}
	return s
}

// normalOrNone returns NormalOf of a text, or an empty text if it fails.
func normalOrNone(s string) string {
	normal, _, _ := impl.NormalOf(s)
	return normal
}

func TestCodeTexts(t *testing.T) {
	for s, want := range map[string]string{
		"k":             "((s (k k)) k)",
		"s":             "(k k)",
		"(k s)":         "(k (k ((s ((s ((s k) k)) (k ((s (k k)) k)))) (k (k k)))))",
		"(s k)":         "(k (k ((s ((s ((s k) k)) (k (k k)))) (k ((s (k k)) k)))))",
		"(s s)":         "(k (k ((s ((s ((s k) k)) (k (k k)))) (k (k k)))))",
		"(s (s s))":     "(k (k ((s ((s ((s k) k)) (k (k k)))) (k (k (k ((s ((s ((s k) k)) (k (k k)))) (k (k k)))))))))",
		"((s s) s)":     "(k (k ((s ((s ((s k) k)) (k (k (k ((s ((s ((s k) k)) (k (k k)))) (k (k k)))))))) (k (k k)))))",
		"((k s) k)":     joinedText(joinedText(kCodeText, sCodeText), kCodeText),
		"((k k) s)":     joinedText(joinedText(kCodeText, kCodeText), sCodeText),
		"(k (s k))":     joinedText(kCodeText, joinedText(sCodeText, kCodeText)),
		identity:        joinedText(joinedText(sCodeText, kCodeText), kCodeText),
		"(k k)":         joinedText(kCodeText, kCodeText),
		kCodeText:       joinedText(joinedText(sCodeText, joinedText(kCodeText, kCodeText)), kCodeText),
		"(k (k (k s)))": joinedText(kCodeText, joinedText(kCodeText, joinedText(kCodeText, sCodeText))),
	} {
		if got, ok := impl.CodeOf(s); !ok || got != want {
			t.Errorf("CodeOf returns %q for %q, not %q", got, s, want)
		}
		if got, ok := impl.CodeRead(want); !ok || got != s {
			t.Errorf("CodeRead returns %q for %q, not %q", got, want, s)
		}
	}
}

// Promise 26.
func TestCodeOf(t *testing.T) {
	for _, s := range closedTerms(4, 60) {
		got, ok := impl.CodeOf(s)
		if !ok || got != codeByRules(s) || got != codeText(s) {
			t.Fatalf("CodeOf returns %q for %q, not %q", brief(got), s, brief(codeText(s)))
		}
		if _, redex := stepByText(got); redex || !impl.TermNormal(got) || !impl.TermClosed(got) {
			t.Fatalf("CodeOf returns %q for %q, which is not closed and normal", brief(got), s)
		}
		if back, ok := impl.CodeRead(got); !ok || back != s {
			t.Fatalf("CodeRead returns %q for the code of %q", back, s)
		}
	}
}

// Promises 26 and 27, with codes of codes.
func TestCodeOfCodes(t *testing.T) {
	deepest := 0
	for _, s := range closedTerms(3, 20) {
		texts := []string{s}
		for {
			last := texts[len(texts)-1]
			next, ok := impl.CodeOf(last)
			want := codeText(last)
			if ok != impl.TermValid(want) || ok && next != want || !ok && next != "" {
				t.Fatalf("CodeOf returns %q for %q", brief(next), brief(last))
			}
			if !ok {
				break
			}
			texts = append(texts, next)
		}
		deepest = max(deepest, len(texts)-1)
		for _, before := range slices.Backward(texts[:len(texts)-1]) {
			got, ok := impl.CodeRead(codeText(before))
			if !ok || got != before {
				t.Fatalf("CodeRead returns %q for the code of %q", brief(got), brief(before))
			}
		}
	}
	// s has the code (k k), this one a code of 17 atoms, that of it has 202, and
	// that of this 2497.
	if deepest != 4 {
		t.Errorf("there are codes of codes %d deep", deepest)
	}
}

func TestCodeOfFails(t *testing.T) {
	for _, s := range noClosed() {
		if got, ok := impl.CodeOf(s); ok || got != "" {
			t.Errorf("CodeOf returns %q for %q", brief(got), brief(s))
		}
	}
}

// leaves returns a term with few parentheses within each other, of a number of
// s and then one of k.
func leaves(ss, ks int) string {
	atoms := append(slices.Repeat([]string{"s"}, ss), slices.Repeat([]string{"k"}, ks)...)
	return balanced(atoms)
}

func balanced(atoms []string) string {
	if len(atoms) == 1 {
		return atoms[0]
	}
	half := len(atoms) / 2
	return app(balanced(atoms[:half]), balanced(atoms[half:]))
}

func TestCodeLimits(t *testing.T) {
	sizes := map[int]int{}
	for _, c := range [][2]int{{273, 0}, {270, 3}, {269, 4}, {264, 8}, {263, 9}, {274, 0}, {0, 273}, {0, 230}, {0, 231}, {0, 232}, {3000, 0}} {
		s := leaves(c[0], c[1])
		want := codeText(s)
		size := atomsByText(want)
		sizes[size]++
		got, ok := impl.CodeOf(s)
		if ok != (size <= 3000) || ok && got != want || !ok && got != "" {
			t.Errorf("CodeOf is %v for a code of %d atoms", ok, size)
		}
		// What is too large for a term is no code.
		back, ok := impl.CodeRead(want)
		if ok != (size <= 3000) || ok && back != s || !ok && back != "" {
			t.Errorf("CodeRead is %v for a code of %d atoms", ok, size)
		}
	}
	if sizes[3000] == 0 || sizes[3001] == 0 {
		t.Errorf("no code has just 3000 or 3001 atoms")
	}
}

func TestCodeNesting(t *testing.T) {
	depths := map[int]int{}
	for _, innermost := range []string{"s", "k", "(s s)", "(k s)", "(s (k s))"} {
		for _, lefts := range []int{100, 247, 248, 249, 250} {
			for rights := range 4 {
				s := strings.Repeat("(s ", rights) + strings.Repeat("(", lefts) + innermost + strings.Repeat(" s)", lefts) + strings.Repeat(")", rights)
				want := codeText(s)
				depth := nestingByText(want)
				depths[depth]++
				got, ok := impl.CodeOf(s)
				if ok != (depth <= 1500) || ok && got != want || !ok && got != "" {
					t.Errorf("CodeOf is %v for %d parentheses within each other", ok, depth)
				}
				back, ok := impl.CodeRead(want)
				if ok != (depth <= 1500) || ok && back != s || !ok && back != "" {
					t.Errorf("CodeRead is %v for %d parentheses within each other", ok, depth)
				}
			}
		}
	}
	if depths[1500] == 0 || depths[1501] == 0 {
		t.Errorf("no code has just 1500 or 1501 parentheses within each other")
	}
	for _, s := range []string{nestedK(1500), nestedK(300), strings.Repeat("(", 1500) + "s" + strings.Repeat(" s)", 1500)} {
		if got, ok := impl.CodeOf(s); ok || got != "" {
			t.Errorf("CodeOf returns %q for %q", brief(got), brief(s))
		}
	}
}

// Promise 27.
func TestCodeRead(t *testing.T) {
	list := termsUpTo(5, []string{"k", "s", "x"})
	list = append(list, mixedTerms(300)...)
	for _, s := range []string{"k", "s", "(k s)", "(s (k k))", "((k s) s)", kCodeText, sCodeText, joinedText(sCodeText, "s")} {
		list = append(list, changed(codeText(s))...)
	}
	for _, part := range []string{"k", "s", "x", identity, "(k s)", kCodeText, sCodeText, codeText("(k s)"), codeText(sCodeText)} {
		for _, other := range []string{"k", kCodeText, sCodeText, codeText("(s k)")} {
			list = append(list, joinedText(part, other), joinedText(other, part), joinedText(joinedText(part, other), other))
		}
	}
	codes := 0
	for _, s := range list {
		want, wantOk := codedByText(s)
		got, ok := impl.CodeRead(s)
		if ok != wantOk || got != want {
			t.Fatalf("CodeRead returns %q, %v for %q, not %q", got, ok, s, want)
		}
		if !ok {
			continue
		}
		codes++
		if back, fine := impl.CodeOf(got); !fine || back != s {
			t.Fatalf("CodeOf returns %q for what the code %q is of", back, s)
		}
	}
	if codes < 60 {
		t.Errorf("there are %d codes", codes)
	}
}

func TestCodeReadFails(t *testing.T) {
	pair := pairText(kCodeText, sCodeText)
	good := codeText("(k s)")
	list := []string{
		"k", "s", "x", "(k s)", "(s k)", "(k x)", identity, falseText, "((s (k k)) s)", "((s (k s)) k)", "((k (k k)) k)", "((s (k x)) k)",
		"((x (k k)) k)", "((s (k k)) x)", "(k (k k))", "(k (k (k k)))", pair, app("k", pair), app("k", app("k", app("k", pair))),
		app("s", app("k", pair)), app("k", app("s", pair)), app("x", app("k", pair)), app("k", app("x", pair)), app("k", "k", pair),
		joinedText("x", "y"), joinedText("x", sCodeText), joinedText(kCodeText, "x"), joinedText("k", "s"), joinedText(pair, pair),
		// What comes to a code is none.
		app(identity, kCodeText), app("k", sCodeText, "s"), app(codeByRules("k"), "k"), app("k", app("k", app("k", pair, "s"))),
		// No terms, though codes are in them.
		good + " ", " " + good, good + good, "(" + good + ")", good[:len(good)-1], good[1:], good + ")", strings.ToUpper(good), strings.ReplaceAll(good, " ", "  "),
		strings.ReplaceAll(good, "k", "k1"), strings.ReplaceAll(good, "s", "s0"), strings.ReplaceAll(good, "k", "x"), strings.ReplaceAll(good, "s", "x"),
	}
	for _, s := range slices.Concat(list, noClosed()) {
		if got, ok := impl.CodeRead(s); ok || got != "" {
			t.Errorf("CodeRead returns %q for %q", brief(got), brief(s))
		}
	}
}

// runByText is the interpreter, by its rules.
func runByText() string {
	w := abstractAllByText([]string{"x", "y"}, app("u", "x", "(u y)"))
	return app(fixText, abstractAllByText([]string{"u", "v"}, app("v", "k", "s", w)))
}

func joinByText() string {
	return abstractAllByText([]string{"u", "v", "x", "y", "z"}, "((z u) v)")
}

func quoteByText() string {
	j := joinByText()
	w := abstractAllByText([]string{"x", "y"}, app(j, app(j, codeText(j), "(u x)"), "(u y)"))
	return app(fixText, abstractAllByText([]string{"u", "v"}, app("v", codeText(kCodeText), codeText(sCodeText), w)))
}

// Promise 29.
func TestCodeWords(t *testing.T) {
	for word, want := range map[string]string{"run": runByText(), "join": joinByText(), "quote": quoteByText()} {
		if got, ok := impl.CodeWords(word); !ok || got != want || !impl.TermClosed(got) {
			t.Errorf("CodeWords returns %q for %q, not %q", got, word, want)
		}
	}
	for _, c := range [][2]string{
		{app(codeWord(t, "run"), kCodeText), "k"}, {app(codeWord(t, "run"), sCodeText), "s"},
		{app(codeWord(t, "run"), codeText("(k s)")), "(k s)"}, {app(codeWord(t, "run"), codeText("((k s) k)"), "x"), "(s x)"},
		{app(codeWord(t, "join"), kCodeText, sCodeText), codeText("(k s)")}, {app(codeWord(t, "join"), "w", "w0"), joinedText("w", "w0")},
		{app(codeWord(t, "join"), "x", "z"), joinedText("x", "z")},
		{app(codeWord(t, "quote"), kCodeText), codeText(kCodeText)}, {app(codeWord(t, "quote"), sCodeText), codeText(sCodeText)},
	} {
		if got, _, ok := impl.NormalOf(c[0]); !ok || got != c[1] {
			t.Errorf("%q comes to %q, not to %q", brief(c[0]), brief(got), c[1])
		}
	}
	words := slices.Concat(dataWords, noTerms(), []string{"Run", "RUN", "run ", " run", "runs", "ru", "joiner", "quoter", "quot", "(run)", "run\n", "join\x00", "run join", "k", "s"})
	for _, word := range append(words, strings.Repeat("run", 1000000)) {
		if got, ok := impl.CodeWords(word); ok || got != "" {
			t.Errorf("CodeWords returns %q for %q", brief(got), brief(word))
		}
	}
}

// Promise 28.
func TestCodeRun(t *testing.T) {
	run, runs := codeWord(t, "run"), 0
	for _, s := range closedTerms(6, 100) {
		got, ok := impl.CodeRun(s)
		if want := normalOrNone(app(run, codeText(s))); ok != (want != "") || got != want {
			t.Fatalf("CodeRun returns %q, %v for %q, not %q", brief(got), ok, s, brief(want))
		}
		if !ok {
			continue
		}
		runs++
		if normal, _, fine := impl.NormalOf(s); fine && normal != got {
			t.Fatalf("CodeRun returns %q for %q, not %q", brief(got), s, brief(normal))
		}
	}
	if runs < 500 {
		t.Errorf("there are %d runs", runs)
	}
}

func TestCodeRuns(t *testing.T) {
	for s, want := range map[string]string{
		"k": "k", "s": "s", "(k s)": "(k s)", "(s k)": "(s k)", "((k s) k)": "s", "((k k) s)": "k", identity: identity,
		"(((s k) k) s)": "s", "(((s k) s) k)": "k", "(k ((k s) k))": "(k s)", "((k (k s)) s)": "(k s)", "(((k k) s) k)": "(k k)",
		kCodeText: kCodeText, sCodeText: sCodeText,
	} {
		if got, ok := impl.CodeRun(s); !ok || got != want {
			t.Errorf("CodeRun returns %q for %q, not %q", got, s, want)
		}
	}
}

func TestCodeRunFails(t *testing.T) {
	for _, s := range append(noClosed(), endless, growing, app("k", endless), leaves(273, 0), leaves(270, 3), leaves(269, 4),
		leaves(264, 0), leaves(268, 0), leaves(1000, 0), flat(3000, "k"), nestedK(1500), numeralText(60)) {
		if got, ok := impl.CodeRun(s); ok || got != "" {
			t.Errorf("CodeRun returns %q for %q", brief(got), brief(s))
		}
	}
	// A term that comes to a normal one, and whose code is a term, but not with
	// the interpreter ahead.
	s := leaves(264, 8)
	if c := code(t, s); impl.TermValid(app(codeWord(t, "run"), c)) {
		t.Errorf("the interpreter applied to a code of %d atoms is a term", impl.TermSize(c))
	}
	if got, ok := impl.CodeRun(s); ok || got != "" {
		t.Errorf("CodeRun returns %q for %q", brief(got), brief(s))
	}
}

// Promise 30.
func TestCodeJoin(t *testing.T) {
	join := codeWord(t, "join")
	list := closedTerms(3, 4)
	joins := 0
	for _, s := range list {
		for _, u := range list {
			got, ok := impl.CodeJoin(s, u)
			if want := normalOrNone(app(join, codeText(s), codeText(u))); ok != (want != "") || got != want {
				t.Fatalf("CodeJoin returns %q, %v for %q and %q, not %q", brief(got), ok, s, u, brief(want))
			}
			if !ok {
				continue
			}
			joins++
			if whole, fine := impl.CodeOf(app(s, u)); fine && whole != got {
				t.Fatalf("CodeJoin returns %q for %q and %q, not %q", brief(got), s, u, brief(whole))
			}
		}
	}
	if joins != len(list)*len(list) {
		t.Errorf("there are %d joins", joins)
	}
}

// Codes that fit may be too large for a join, as steps of it have one of them
// more than once.
func TestCodeJoinLimits(t *testing.T) {
	join, good, bad := codeWord(t, "join"), 0, 0
	for n := 1; n <= 273; n += 8 {
		for _, c := range [][2]string{{leaves(n, 0), "k"}, {"s", leaves(n, 0)}, {leaves(n, 0), leaves(0, (n+1)/2)}} {
			got, ok := impl.CodeJoin(c[0], c[1])
			if want := normalOrNone(app(join, codeText(c[0]), codeText(c[1]))); ok != (want != "") || got != want {
				t.Fatalf("CodeJoin is %v for terms of %d and %d atoms", ok, atomsByText(c[0]), atomsByText(c[1]))
			}
			if !ok {
				bad++
				continue
			}
			good++
			if whole, fine := impl.CodeOf(app(c[0], c[1])); fine && whole != got {
				t.Fatalf("CodeJoin returns %q, not %q", brief(got), brief(whole))
			}
		}
	}
	if good == 0 || bad == 0 {
		t.Errorf("there are %d joins, and %d fail", good, bad)
	}
}

func TestCodeJoinFails(t *testing.T) {
	for _, s := range append(noClosed(), leaves(274, 0), leaves(269, 4), leaves(273, 0), nestedK(400)) {
		for _, c := range [][2]string{{s, "k"}, {"k", s}, {s, s}} {
			if got, ok := impl.CodeJoin(c[0], c[1]); ok || got != "" {
				t.Errorf("CodeJoin returns %q for %q and %q", brief(got), brief(c[0]), brief(c[1]))
			}
		}
	}
	// The texts are none, though what stands together is one.
	if got, ok := impl.CodeJoin("k s) (k", "k"); ok || got != "" {
		t.Errorf("CodeJoin returns %q for a text that is no term", got)
	}
	// What a join does not look at has to be a code, too: of endless terms there are some.
	if got, ok := impl.CodeJoin("k", endless); !ok || got != codeText(app("k", endless)) {
		t.Errorf("CodeJoin returns %q for an endless term", got)
	}
}

// Promise 31.
func TestCodeQuote(t *testing.T) {
	run, quotes := codeWord(t, "run"), 0
	for _, s := range closedTerms(5, 60) {
		got, ok := impl.CodeQuote(s)
		twice := codeText(codeText(s))
		if want := normalOrNone(app(run, twice)); ok != (want != "") || got != want {
			t.Fatalf("CodeQuote returns %q, %v for %q, not %q", brief(got), ok, s, brief(want))
		}
		if !ok {
			continue
		}
		quotes++
		if c := code(t, s); c != got {
			t.Fatalf("CodeQuote returns %q for %q, not %q", got, s, c)
		}
		if back, fine := impl.CodeRun(got); !fine || back != got {
			t.Fatalf("CodeRun returns %q for the code of %q", back, s)
		}
	}
	// Steps of the interpreter are too large for the codes of all applications.
	if quotes != 2 {
		t.Errorf("there are %d quotes", quotes)
	}
	for s, want := range map[string]string{"k": "((s (k k)) k)", "s": "(k k)"} {
		if got, ok := impl.CodeQuote(s); !ok || got != want {
			t.Errorf("CodeQuote returns %q for %q, not %q", got, s, want)
		}
	}
}

func TestCodeQuoteFails(t *testing.T) {
	for _, s := range append(noClosed(), "(k k)", identity, endless, growing, leaves(23, 0), leaves(24, 0), leaves(270, 3), leaves(274, 0), nestedK(400)) {
		if got, ok := impl.CodeQuote(s); ok || got != "" {
			t.Errorf("CodeQuote returns %q for %q", brief(got), brief(s))
		}
	}
}

// fixArguments are terms of which many drop their fixed point, so that they
// come to an end.
func fixArguments() []string {
	list := append(termsUpTo(2, []string{"k", "s", "x"}), closedTerms(2, 10)...)
	for _, s := range append(termsUpTo(3, []string{"k", "s", "x"}), mixedTerms(20)...) {
		list = append(list, app("k", s), app("k", app("k", s)))
	}
	return list
}

// Promise 32.
func TestFixOf(t *testing.T) {
	same := 0
	for _, s := range fixArguments() {
		got, ok := impl.FixOf(s)
		want := app(fixText, s)
		if ok != impl.TermValid(want) || ok && got != want || !ok && got != "" {
			t.Fatalf("FixOf returns %q for %q", brief(got), brief(s))
		}
		if !ok {
			continue
		}
		if impl.TermClosed(got) != impl.TermClosed(s) {
			t.Fatalf("TermClosed is %v for %q", impl.TermClosed(got), brief(got))
		}
		one, two := normalOrNone(app(got, "k")), normalOrNone(app(s, got, "k"))
		if one != "" && two != "" && one != two {
			t.Fatalf("%q applied to k comes to %q and not to %q", brief(got), one, two)
		}
		if one != "" && one == two {
			same++
		}
	}
	if same < 100 {
		t.Errorf("there are %d fixed points that come to an end", same)
	}
	for s, want := range map[string]string{
		"x": app(fixText, "x"), "k": app(fixText, "k"), "((k x) y)": app(fixText, "((k x) y)"),
	} {
		if got, ok := impl.FixOf(s); !ok || got != want || got != app(data(t, "fix"), s) {
			t.Errorf("FixOf returns %q for %q", got, s)
		}
	}
}

func TestFixOfLimits(t *testing.T) {
	most := impl.SizeMax - atomsByText(fixText)
	for _, c := range []struct {
		s  string
		ok bool
	}{
		{flat(most, "x"), true}, {flat(most+1, "x"), false}, {flat(most, "k"), true}, {flat(most+1, "s"), false}, {flat(3000, "k"), false},
		{nestedRight(1499, "x"), true}, {nestedRight(1500, "x"), false}, {nestedLeft(1499, "x"), true}, {nestedLeft(1500, "x"), false},
	} {
		got, ok := impl.FixOf(c.s)
		if ok != c.ok || ok && got != app(fixText, c.s) || !ok && got != "" {
			t.Errorf("FixOf is %v for %q", ok, brief(c.s))
		}
	}
	for _, s := range append(noTerms(), largeNoTerms()...) {
		if got, ok := impl.FixOf(s); ok || got != "" {
			t.Errorf("FixOf returns %q for %q", brief(got), brief(s))
		}
	}
}

// Promise 33.
func TestFixApply(t *testing.T) {
	same := 0
	for _, s := range fixArguments() {
		for _, u := range []string{"k", "(x s)", app(identity, "z"), endless} {
			got, ok := impl.FixApply(s, u)
			if want := normalOrNone(app(fixText, s, u)); ok != (want != "") || got != want {
				t.Fatalf("FixApply returns %q, %v for %q and %q, not %q", brief(got), ok, s, u, brief(want))
			}
			if !ok {
				continue
			}
			around := normalOrNone(app(s, app(fixText, s), u))
			if around != "" && around != got {
				t.Fatalf("FixApply returns %q for %q and %q, not %q", brief(got), s, u, brief(around))
			}
			if around != "" {
				same++
			}
		}
	}
	if same < 100 {
		t.Errorf("there are %d fixed points that come to an end", same)
	}
}

func TestFixApplies(t *testing.T) {
	// u is the function itself and v what it is applied to, a numeral or a code.
	zeros := abstractAllByText([]string{"u", "v"}, app("v", "k", identity, app("u", app("v", falseText))))
	allS := abstractAllByText([]string{"u", "v"}, app("v", "s", "s", abstractAllByText([]string{"x", "y"}, app("x1", "(u x)", "(u y)"))))
	for _, c := range [][3]string{
		{"(k x)", "y", "(x y)"}, {"(k k)", "y", "(k y)"}, {"(k (k x))", "y", "x"}, {"(k " + identity + ")", "(x y)", "(x y)"},
		{app("k", app("k", "x")), endless, "x"}, {"(k (k ((k x) y)))", "k", "x"}, {falseText, "((k x) y)", "x"},
		{zeros, numeralText(0), identity}, {zeros, numeralText(1), identity}, {zeros, numeralText(4), identity},
		{allS, kCodeText, "s"}, {allS, codeText("(k s)"), "((x1 s) s)"}, {allS, codeText("(k (s k))"), "((x1 s) ((x1 s) s))"},
	} {
		if got, ok := impl.FixApply(c[0], c[1]); !ok || got != c[2] {
			t.Errorf("FixApply returns %q for %q and %q, not %q", got, c[0], c[1], c[2])
		}
	}
}

func TestFixApplyLimits(t *testing.T) {
	good, bad := 0, 0
	for n := 2900; n <= 3000; n++ {
		s, u := "(k (k x))", flat(n, "y")
		want := normalOrNone(app(fixText, s, u))
		got, ok := impl.FixApply(s, u)
		if ok != (want != "") || got != want {
			t.Fatalf("FixApply returns %q for %d atoms, not %q", brief(got), n, brief(want))
		}
		if ok {
			good++
		} else {
			bad++
		}
	}
	if good == 0 || bad == 0 {
		t.Errorf("FixApply succeeds %d times and fails %d times", good, bad)
	}
}

func TestFixApplyFails(t *testing.T) {
	for _, s := range append(noTerms(), largeNoTerms()...) {
		for _, c := range [][2]string{{s, "k"}, {"(k (k x))", s}, {s, s}} {
			if got, ok := impl.FixApply(c[0], c[1]); ok || got != "" {
				t.Errorf("FixApply returns %q for %q and %q", brief(got), brief(c[0]), brief(c[1]))
			}
		}
	}
	for _, c := range [][2]string{
		{identity, "x"}, {identity, identity}, {"(s s)", growing}, {"(k " + identity + ")", endless}, {app("k", app("k", growing)), "k"},
		{"(k (k x))", flat(3000, "k")}, {"(k (k x))", nestedRight(1500, "k")}, {nestedLeft(1499, "x"), "k"},
		// The texts are none, though what stands together is one.
		{"k x) (k", "k"},
	} {
		if got, ok := impl.FixApply(c[0], c[1]); ok || got != "" {
			t.Errorf("FixApply returns %q for %q and %q", brief(got), brief(c[0]), brief(c[1]))
		}
	}
}

// Codes of the same term are the same, whatever else is called.
func TestCodesAgain(t *testing.T) {
	first := code(t, identity)
	impl.CodeRun(growing)
	impl.CodeRead(first)
	impl.CodeJoin("k", "s")
	if again := code(t, identity); again != first {
		t.Errorf("CodeOf returns %q and then %q", first, again)
	}
}
