package tests

import (
	"maps"
	"regexp"
	"slices"
	"sort"
	"strconv"
	"strings"
	"testing"

	"loop.example/realizers/impl"
)

// logic is a formula or an expression that the tests make of its parts, so that
// what they expect of it needs no reader of texts. What it means is told with
// numbers for names beside it, so that nothing is put into it.
type logic struct {
	// word is a number or a name, too.
	word string
	// name and limit are those of all and ex.
	name  string
	limit int
	parts []*logic
}

// numbers are the numbers of names.
type numbers map[string]int

func (n numbers) and(name string, number int) numbers {
	more := maps.Clone(n)
	if more == nil {
		more = numbers{}
	}
	more[name] = number
	return more
}

func word(w string) *logic { return &logic{word: w} }

func of(word string, parts ...*logic) *logic { return &logic{word: word, parts: parts} }

func boundOf(word, name string, limit int, body *logic) *logic {
	return &logic{word: word, name: name, limit: limit, parts: []*logic{body}}
}

// words are the atoms in order.
func (l *logic) words() []string {
	list := []string{l.word}
	if l.name != "" {
		list = append(list, l.name, strconv.Itoa(l.limit))
	}
	for _, part := range l.parts {
		list = append(list, part.words()...)
	}
	return list
}

func (l *logic) atoms() int { return len(l.words()) }

func (l *logic) text() string {
	if len(l.parts) == 0 {
		return l.word
	}
	text := "(" + l.word
	if l.name != "" {
		text += " " + l.name + " " + strconv.Itoa(l.limit)
	}
	for _, part := range l.parts {
		text += " " + part.text()
	}
	return text + ")"
}

func (l *logic) isName() bool {
	return len(l.parts) == 0 && l.word[0] >= 'u' && l.word[0] <= 'z'
}

// free are the names that are not bound, as often as they are there.
func (l *logic) free(bound ...string) []string {
	if l.isName() && !slices.Contains(bound, l.word) {
		return []string{l.word}
	}
	var list []string
	for _, part := range l.parts {
		list = append(list, part.free(append([]string{l.name}, bound...)...)...)
	}
	return list
}

func (l *logic) closed() bool { return len(l.free()) == 0 }

func (l *logic) simple() bool {
	return !slices.Contains(l.words(), "imp") && !slices.Contains(l.words(), "all")
}

// put changes the words of the names that are not bound.
func (l *logic) put(name string, n int) *logic {
	return l.putInstead(name, word(strconv.Itoa(n)))
}

// putInstead puts a number or a name.
func (l *logic) putInstead(name string, by *logic, bound ...string) *logic {
	if l.isName() && l.word == name && !slices.Contains(bound, name) {
		return by
	}
	changed := *l
	changed.parts = nil
	for _, part := range l.parts {
		changed.parts = append(changed.parts, part.putInstead(name, by, append([]string{l.name}, bound...)...))
	}
	return &changed
}

func (l *logic) value(n numbers) int {
	if l.isName() {
		return n[l.word]
	}
	result := 0
	switch l.word {
	case "suc":
		result = l.parts[0].value(n) + 1
	case "add":
		result = l.parts[0].value(n) + l.parts[1].value(n)
	case "mul":
		result = l.parts[0].value(n) * l.parts[1].value(n)
	default:
		result, _ = strconv.Atoi(l.word)
	}
	return min(result, 1000001)
}

func (l *logic) holds(n numbers) bool {
	switch l.word {
	case "eq":
		return l.parts[0].value(n) == l.parts[1].value(n)
	case "and":
		return l.parts[0].holds(n) && l.parts[1].holds(n)
	case "or":
		return l.parts[0].holds(n) || l.parts[1].holds(n)
	case "imp":
		return !l.parts[0].holds(n) || l.parts[1].holds(n)
	case "all", "ex":
		for i := range l.limit {
			if l.parts[0].holds(n.and(l.name, i)) == (l.word == "ex") {
				return l.word == "ex"
			}
		}
		return l.word == "all"
	}
	return l.word == "top"
}

// tests returns the tests of a simple formula, and whether there are never too many.
func (l *logic) tests(n numbers) ([]string, bool) {
	var list []string
	few := true
	add := func(label string, part *logic, n numbers) {
		tests, ok := part.tests(n)
		few = few && ok
		for _, test := range tests {
			list = append(list, pairText(label, test))
		}
	}
	switch l.word {
	case "top", "eq":
		if l.holds(n) {
			list = []string{identity}
		}
	case "and":
		first, ok := l.parts[0].tests(n)
		second, okTwo := l.parts[1].tests(n)
		few = ok && okTwo
		for _, test := range first {
			for _, other := range second {
				list = append(list, pairText(test, other))
			}
		}
	case "or":
		add("k", l.parts[0], n)
		add(falseText, l.parts[1], n)
	case "ex":
		for i := range l.limit {
			add(numeralText(i), l.parts[0], n.and(l.name, i))
		}
	}
	return list, few && len(list) <= 500
}

// These are first and second.
var (
	firstText  = app("s", identity, "(k k)")
	secondText = app("s", identity, app("k", falseText))
)

// realized follows the rules of what realizes a formula along texts.
func (l *logic) realized(r string, n numbers) bool {
	if !impl.TermValid(r) {
		return false
	}
	if l.simple() {
		tests, ok := l.tests(n)
		normal, _, isNormal := impl.NormalOf(r)
		return ok && isNormal && slices.Contains(tests, normal)
	}
	first, second := app(firstText, r), app(secondText, r)
	switch l.word {
	case "and":
		return l.parts[0].realized(first, n) && l.parts[1].realized(second, n)
	case "or":
		bit, ok := impl.BitRead(first)
		return ok && l.parts[1-bit].realized(second, n)
	case "imp":
		tests, ok := l.parts[0].tests(n)
		return ok && !slices.ContainsFunc(tests, func(test string) bool { return !l.parts[1].realized(app(r, test), n) })
	case "all":
		for i := range l.limit {
			if !l.parts[0].realized(app(r, numeralText(i)), n.and(l.name, i)) {
				return false
			}
		}
		return true
	}
	i, ok := impl.NumberRead(first)
	return ok && i < l.limit && l.parts[0].realized(second, n.and(l.name, i))
}

// predData is pred.
var predData = app("s", app("s", app("s", identity, "(k k)"), app("k", identity)), app("s", identity, app("k", falseText)))

// canon follows the rules of a canonical realizer along texts.
func (l *logic) canon(n numbers) string {
	switch l.word {
	case "and":
		return pairText(l.parts[0].canon(n), l.parts[1].canon(n))
	case "or":
		if l.parts[0].holds(n) {
			return pairText("k", l.parts[0].canon(n))
		}
		return pairText(falseText, l.parts[1].canon(n))
	case "imp":
		if l.parts[1].holds(n) {
			return app("k", l.parts[1].canon(n))
		}
	case "ex":
		i := 0
		for !l.parts[0].holds(n.and(l.name, i)) {
			i++
		}
		return pairText(numeralText(i), l.parts[0].canon(n.and(l.name, i)))
	case "all":
		return abstractByText("z", l.canonFrom(0, n))
	}
	return identity
}

// canonFrom is T for a number.
func (l *logic) canonFrom(m int, n numbers) string {
	r := l.parts[0].canon(n.and(l.name, m))
	if m == l.limit-1 {
		return r
	}
	return app(firstText, strings.Repeat("("+predData+" ", m)+"z"+strings.Repeat(")", m), r, l.canonFrom(m+1, n))
}

var expressionAtoms = []*logic{word("0"), word("2"), word("x"), word("y1")}

func expressionsOf(atoms int) []*logic {
	if atoms == 1 {
		return expressionAtoms
	}
	var list []*logic
	for _, e := range expressionsOf(atoms - 1) {
		list = append(list, of("suc", e))
	}
	for size := 1; size < atoms-1; size++ {
		for _, e := range expressionsOf(size) {
			for _, g := range expressionsOf(atoms - 1 - size) {
				list = append(list, of("add", e, g), of("mul", e, g))
			}
		}
	}
	return list
}

// formulasOf returns the formulas of a number of atoms, made of a few ones.
func formulasOf(atoms int) []*logic {
	if atoms == 1 {
		return []*logic{word("top"), word("bot")}
	}
	var list []*logic
	for size := 1; size < atoms-1; size++ {
		for _, e := range expressionsOf(size) {
			for _, g := range expressionsOf(atoms - 1 - size) {
				list = append(list, of("eq", e, g))
			}
		}
		for _, f := range formulasOf(size) {
			for _, g := range formulasOf(atoms - 1 - size) {
				list = append(list, of("and", f, g), of("or", f, g))
				if f.simple() {
					list = append(list, of("imp", f, g))
				}
			}
		}
	}
	if atoms > 3 {
		for _, f := range formulasOf(atoms - 3) {
			list = append(list, boundOf("all", "x", 2, f), boundOf("ex", "x", 3, f), boundOf("ex", "y1", 1, f))
		}
	}
	return list
}

func formulasUpTo(atoms int) []*logic {
	var list []*logic
	for n := 1; n <= atoms; n++ {
		list = append(list, formulasOf(n)...)
	}
	return list
}

// mixer makes formulas that follow from a seed alone.
type mixer struct {
	seed  uint32
	names []string
	// most is the greatest number.
	most int
}

func (m *mixer) choice(n int) int {
	m.seed = m.seed*1664525 + 1013904223
	return int(m.seed>>16) % n
}

func (m *mixer) expression(depth int) *logic {
	switch kind := m.choice(10); {
	case depth > 0 && kind == 0:
		return of("suc", m.expression(depth-1))
	case depth > 0 && kind < 4:
		return of([]string{"add", "mul"}[kind%2], m.expression(depth-1), m.expression(depth-1))
	case kind < 8 && len(m.names) > 0:
		return word(m.names[m.choice(len(m.names))])
	}
	return word(strconv.Itoa(m.choice(m.most + 1)))
}

// formula has the names of the mixer, and those that are bound around it.
func (m *mixer) formula(depth int, simple bool) *logic {
	kind := m.choice(12)
	if depth == 0 || kind < 2 {
		if m.choice(4) == 0 {
			return word([]string{"top", "bot"}[m.choice(2)])
		}
		return of("eq", m.expression(2), m.expression(1))
	}
	if kind < 7 {
		word := []string{"and", "or", "imp", "imp", "imp"}[kind-2]
		if simple && kind > 3 {
			word = []string{"and", "or"}[kind%2]
		}
		return of(word, m.formula(depth-1, simple || word == "imp"), m.formula(depth-1, simple))
	}
	binds := []string{"all", "ex"}[kind%2]
	if simple {
		binds = "ex"
	}
	name := []string{"x", "y", "z7", "u001"}[m.choice(4)]
	around := m.names
	m.names = append(slices.Clone(around), name)
	body := m.formula(depth-1, simple)
	m.names = around
	return boundOf(binds, name, 1+m.choice(min(m.most, 6)), body)
}

// mixedFormulas returns formulas within the limits with some of the names.
func mixedFormulas(count, most int, names ...string) []*logic {
	m := &mixer{seed: uint32(count), names: names, most: most}
	var list []*logic
	for n := 0; len(list) < count; n++ {
		if f := m.formula(1+n%5, n%3 == 0); formulaByText(f.text()) {
			list = append(list, f)
		}
	}
	return list
}

var (
	numberOrName   = `(?:[u-z][0-9]{0,3}|[0-9]|[1-5][0-9]|60|<E>)`
	isExpression   = regexp.MustCompile(`^` + numberOrName + `$`)
	lastExpression = regexp.MustCompile(`\((?:suc ` + numberOrName + `|(?:add|mul) ` + numberOrName + ` ` + numberOrName + `)\)`)
	lastEquality   = regexp.MustCompile(`\(eq ` + numberOrName + ` ` + numberOrName + `\)`)
	lastJoined     = regexp.MustCompile(`\((and|or|imp) <([SF])([0-9]+)> <([SF])([0-9]+)>\)`)
	lastBound      = regexp.MustCompile(`\((all|ex) [u-z][0-9]{0,3} ([1-6]) <([SF])([0-9]+)>\)`)
	constants      = regexp.MustCompile(`\b(?:top|bot)\b`)
	isFormula      = regexp.MustCompile(`^<[SF][0-9]+>$`)
)

func wordsByText(text string) int {
	return len(strings.FieldsFunc(text, func(c rune) bool { return strings.ContainsRune("() ", c) }))
}

// rewritten puts a mark for what has only marks in it, until there is nothing
// more to do.
func rewritten(text string, pattern *regexp.Regexp, mark func(found []string) string) string {
	for {
		next := pattern.ReplaceAllStringFunc(text, func(s string) string { return mark(pattern.FindStringSubmatch(s)) })
		if next == text {
			return text
		}
		text = next
	}
}

// expressionByText reports whether a text is an expression.
func expressionByText(text string) bool {
	if strings.Contains(text, "<") || wordsByText(text) > 60 {
		return false
	}
	return isExpression.MatchString(rewritten(text, lastExpression, func(_ []string) string { return "<E>" }))
}

// formulaByText reports whether a text is a formula. Marks are <S> for simple ones
// and <F> for others, with what the numbers within each other multiply to.
func formulaByText(text string) bool {
	if strings.Contains(text, "<") || wordsByText(text) > 60 {
		return false
	}
	text = rewritten(text, lastExpression, func(_ []string) string { return "<E>" })
	text = rewritten(text, lastEquality, func(_ []string) string { return "<S1>" })
	text = rewritten(text, constants, func(_ []string) string { return "<S1>" })
	for before := ""; text != before; {
		before = text
		text = rewritten(text, lastJoined, joinedMark)
		text = rewritten(text, lastBound, boundMark)
	}
	return isFormula.MatchString(text)
}

func joinedMark(found []string) string {
	one, _ := strconv.Atoi(found[3])
	two, _ := strconv.Atoi(found[5])
	product := strconv.Itoa(max(one, two))
	switch {
	case found[1] == "imp" && found[2] == "F":
		return "<no>"
	case found[1] == "imp" || found[2] == "F" || found[4] == "F":
		return "<F" + product + ">"
	}
	return "<S" + product + ">"
}

func boundMark(found []string) string {
	limit, _ := strconv.Atoi(found[2])
	product, _ := strconv.Atoi(found[4])
	switch {
	case limit*product > 300:
		return "<no>"
	case found[1] == "all":
		return "<F" + strconv.Itoa(limit*product) + ">"
	}
	return "<" + found[3] + strconv.Itoa(limit*product) + ">"
}

// noExpressions are no expressions, but for those that are too large.
func noExpressions() []string {
	return []string{
		"", " ", "(", ")", "()", "( )", "-1", "-0", "+1", "00", "01", "060", "61", "99", "100", "1000000", "18446744073709551617", "1.", "1 ", " 1", "1\n", "0x1",
		"1_0", "1e1", "\xd9\xa1", "a", "k", "s", "t", "i", "X", "xx", "x0000", "x1234", "x ", " x", "x-1", "suc", "add", "mul", "(1)", "(x)", "(suc)",
		"(suc )", "(suc 1", "suc 1)", "suc 1", "(suc 1))", "(suc 1) ", " (suc 1)", "((suc 1))", "(suc  1)", "( suc 1)", "(suc 1 )", "(suc 1 2)", "(suc(suc 1))",
		"(suc (1))", "(suc 61)", "(suc -1)", "(suc 01)", "(suc top)", "(suc (suc))", "(Suc 1)", "(SUC 1)", "(succ 1)", "(su 1)", "(pred 1)", "(1 suc)", "(1 1)", "(x 1)", "(1 add 1)",
		"(suc", "(add", "(mul", "(add 1", "(mul x", "(suc x", "(add)", "(add 1)", "(add 1 )", "(add 1 2", "(add  1 2)", "(add 1  2)", "(add 1 2 3)", "(add 1 (2))", "(add 1 2) 3", "(add 1,2)", "[add 1 2]", "(add\t1 2)", "(add 1\n2)",
		"(add (suc 1)2)", "(add(suc 1) 2)", "(add (suc 1) (suc 2)", "(add 1 k)", "(add a 1)", "(sub 2 1)", "(+ 1 2)", "(mul 1)", "(mul 1 2 3)", "(mul 2 61)", "(mul (add 1) 2 3)",
		"(all x 2 x)", "(and 1 1)", "(add (eq 1 1) 1)", "(add top bot)", "\xff", "1\x00", "(suc \xff)", "x\xc3\xa4",
	}
}

// noFormulas are no formulas, but for those that are too large.
func noFormulas() []string {
	list := []string{
		"", " ", "(", ")", "()", "( )", "to", "topp", "Top", "TOP", "top ", " top", "top\n", "top\x00", "(top)", "(bot)", "((top))", "top bot", "toptop", "true", "false", "bo", "bott", "not",
		"0", "1", "x", "u", "k", "s", "i", identity, "(k s)", "eq", "and", "all", "(eq)", "(eq )", "(eq 1)", "(eq 1 )", "(eq 1 1", "eq 1 1)", "eq 1 1", "(eq 1 1))", "(eq 1 1) ", " (eq 1 1)", "((eq 1 1))",
		"(eq  1 1)", "(eq 1  1)", "( eq 1 1)", "(eq 1 1 )", "(eq 1 1 1)", "(eq top top)", "(eq (eq 1 1) 1)", "(eq 1 (1))", "(eq 61 1)", "(eq 1 01)", "(eq -1 1)", "(eq 1 a)", "(eq k k)", "(eq 1 x1234)", "(eq (suc) 1)", "(eq (add 1) 1)", "(eq(suc 1) 2)", "(eq 1(suc 0))", "(eq (suc 1)2)",
		"(Eq 1 1)", "(= 1 1)", "(ne 1 2)", "(eq\t1 1)", "(eq 1\n1)", "(eq,1,1)", "[eq 1 1]",
		"(and)", "(and )", "(and top)", "(and top )", "(and top top", "and top top", "(and top top top)", "(and  top top)", "(and top  top)", "(and top top )", "( and top top)", "(and toptop)", "(and top(eq 1 1))", "(and (eq 1 1)top)", "(and top 1)", "(and 1 top)", "(and x y)",
		"(or)", "(or top)", "(or top bot bot)", "(Or top bot)", "(nor top bot)", "(imp)", "(imp top)", "(imp top top top)", "(IMP top top)", "(iff top top)", "(not top)", "(top bot)", "(top and bot)", "(top top top)", "(bot )",
		"(all)", "(all x)", "(all x 2)", "(all x 2 )", "(all x 2 top", "(all x 2 top top)", "(all x top)", "(all 2 top)", "(all 2 x top)", "(all x y top)", "(all x 0 top)", "(all x 7 top)", "(all x 10 top)", "(all x 60 top)", "(all x -1 top)", "(all x 02 top)", "(all x +2 top)", "(all x 2. top)", "(all x (suc 1) top)",
		"(all (x) 2 top)", "(all x (2) top)", "(all 2 2 top)", "(all xx 2 top)", "(all x0000 2 top)", "(all a 2 top)", "(all k 2 top)", "(all X 2 top)", "(all top 2 top)", "(all  x 2 top)", "(all x  2 top)", "(all x 2  top)", "(all x 2 1)", "(all x 2 x)", "(all x 2 (suc x))", "(allx 2 top)", "(all x2 top)", "(all x 2top)", "(all x 2(eq 1 1))",
		"(ex)", "(ex x)", "(ex x 2)", "(ex x 0 top)", "(ex x 7 top)", "(ex x 2 top bot)", "(ex top)", "(Ex x 2 top)", "(exi x 2 top)", "(some x 2 top)", "(ex x 99999999999999999999 top)", "(ex  2 top)", "(ex x  top)",
		// In front of imp there is something that is not simple.
		"(imp (imp top top) top)", "(imp (all x 2 top) top)", "(imp (and top (all x 1 top)) top)", "(imp (or (imp bot bot) top) top)", "(imp (ex x 2 (all y 2 top)) top)", "(imp (ex x 2 (ex y 2 (imp top top))) top)", "(imp (and (and top top) (and top (imp top top))) bot)",
		"(and top (imp (imp top top) top))", "(all x 2 (imp (all y 2 top) top))", "(imp top (imp (imp top top) top))", "(ex x 2 (imp (all x 2 (eq x 1)) bot))",
		// Something deep in others that is none.
		"(and (or top (imp top (all x 2 (ex y 3 (eq x -1))))) bot)", "(and (and (and (and top x) top) top) top)", "(imp (eq 1 (add 2 (mul 3 (suc a)))) top)",
		"\xff", "top\xff", "(eq 1 \xff)", "\xc3\xa4", "(and top \x00)", "<S1>", "(and <S1> <S1>)", "(all x 2 <S1>)", "(eq <E> 1)",
	}
	return list
}

// andOf returns top so many times, with and in between.
func andOf(count int) string {
	return strings.Repeat("(and top ", count-1) + "top" + strings.Repeat(")", count-1)
}

func sucOf(count int, e string) string {
	return strings.Repeat("(suc ", count) + e + strings.Repeat(")", count)
}

// exOf binds names in each other.
func exOf(word string, limits string, body string) string {
	text := ""
	for i, digit := range limits {
		text += "(" + word + " x" + strconv.Itoa(i) + " " + string(digit) + " "
	}
	return text + body + strings.Repeat(")", len(limits))
}

// largeNoFormulas are no formulas as they have too many atoms or numbers that
// multiply to too much, or would take more room than there is.
func largeNoFormulas() []string {
	return []string{
		exOf("all", strings.Repeat("1", 18), "(and top (and top (all x 2)))"), exOf("all", strings.Repeat("1", 18), "(and top (and top (all x)))"), andOf(31), "(and " + andOf(15) + " " + andOf(16) + ")", "(eq " + sucOf(58, "1") + " 1)", "(eq 1 " + sucOf(58, "x") + ")", "(eq " + sucOf(29, "1") + " " + sucOf(29, "1") + ")", exOf("all", strings.Repeat("1", 20), "top"),
		exOf("ex", strings.Repeat("1", 20), "top"), exOf("ex", strings.Repeat("1", 19), "(eq 1 (suc 0))"), exOf("all", strings.Repeat("1", 19), "(imp top (imp top top))"), andOf(1000), andOf(100000),
		exOf("all", "5444", "top"), exOf("ex", "5444", "top"), exOf("ex", "4454", "top"), exOf("all", "6662", "top"), exOf("all", "666666", "top"), exOf("ex", "6666666666666", "top"), exOf("all", "222222222", "top"), exOf("ex", "163636", "top"),
		"(and top " + exOf("all", "5444", "top") + ")", "(imp " + exOf("ex", "4445", "top") + " top)", "(or " + exOf("ex", "6632", "top") + " " + exOf("ex", "6666", "top") + ")",
		exOf("all", "44", "(and top "+exOf("ex", "45", "top")+")"), exOf("ex", "44", "(imp "+exOf("ex", "54", "top")+" top)"), "(all x 6 (ex x 6 (all x 6 (ex x 2 top))))",
		strings.Repeat("(and ", 10000000), strings.Repeat("(all x 1 ", 5000000), strings.Repeat("(", 20000000), strings.Repeat("(suc ", 10000000), strings.Repeat(")", 1000000), strings.Repeat("top", 1000000), strings.Repeat("(eq ", 1000000),
		"(eq 1 " + strings.Repeat("1", 1000000) + ")", "(eq x" + strings.Repeat("0", 1000000) + " 1)", "(eq " + sucOf(1000000, "1") + " 1)", "(all x " + strings.Repeat("2", 1000000) + " top)",
	}
}

// largeFormulas are formulas that are just in the limits.
func largeFormulas() []string {
	return []string{
		andOf(30), "(and " + andOf(15) + " " + andOf(15) + ")", "(eq " + sucOf(57, "1") + " 1)", "(eq 1 " + sucOf(57, "1") + ")", "(eq " + sucOf(29, "1") + " " + sucOf(28, "1") + ")",
		exOf("all", strings.Repeat("1", 19), "top"), exOf("ex", strings.Repeat("1", 19), "(eq x0 1)"), exOf("all", "6552", "top"), exOf("ex", "5265", "(eq x0 x3)"), exOf("all", "22222222", "top"), exOf("ex", "6623", "top"), exOf("all", "36111122", "top"),
		"(and " + exOf("all", "6552", "top") + " " + exOf("ex", "6552", "top") + ")", "(or (all x 6 " + exOf("ex", "25", "top") + ") (imp " + exOf("ex", "5265", "top") + " " + exOf("all", "666", "top") + "))",
		exOf("all", "65", "(and "+exOf("ex", "25", "top")+" "+exOf("all", "52", "top")+")"), "(ex x 6 (imp " + exOf("ex", "552", "top") + " " + exOf("all", "255", "top") + "))",
	}
}

// checkNoFormula checks that nothing takes a text that is none.
func checkNoFormula(t *testing.T, s string) {
	t.Helper()
	if impl.FormulaValid(s) || impl.FormulaClosed(s) || impl.FormulaHolds(s) || impl.RealizeIs(identity, s) || impl.RealizeIs("k", s) {
		t.Errorf("a formula is %q", brief(s))
	}
	for _, name := range []string{"x", "y", "z7"} {
		if got, ok := impl.FormulaPut(s, name, 1); ok || got != "" {
			t.Errorf("FormulaPut returns %q for %q", got, brief(s))
		}
	}
	if got, ok := impl.TestsOf(s); ok || len(got) > 0 {
		t.Errorf("TestsOf returns %q for %q", got, brief(s))
	}
	if got, ok := impl.CanonOf(s); ok || got != "" {
		t.Errorf("CanonOf returns %q for %q", got, brief(s))
	}
}

func TestNoFormulas(t *testing.T) {
	for _, s := range slices.Concat(noFormulas(), largeNoFormulas(), noExpressions(), noTerms()) {
		checkNoFormula(t, s)
	}
}

func TestFormulaTexts(t *testing.T) {
	for _, c := range []struct {
		s             string
		closed, holds bool
	}{
		{"top", true, true}, {"bot", true, false}, {"(eq 1 1)", true, true}, {"(eq 0 60)", true, false}, {"(eq 60 (suc 59))", true, true}, {"(eq x x)", false, false}, {"(eq 1 u123)", false, false}, {"(eq z000 1)", false, false},
		{"(eq (add 2 3) 5)", true, true}, {"(eq (mul 2 3) 5)", true, false}, {"(eq (mul 2 3) (add 3 3))", true, true}, {"(and top top)", true, true}, {"(and top bot)", true, false}, {"(and bot top)", true, false}, {"(and bot bot)", true, false},
		{"(or top top)", true, true}, {"(or top bot)", true, true}, {"(or bot top)", true, true}, {"(or bot bot)", true, false}, {"(imp top top)", true, true}, {"(imp top bot)", true, false}, {"(imp bot top)", true, true}, {"(imp bot bot)", true, true},
		{"(all x 2 (eq x x))", true, true}, {"(all x 1 (eq x 0))", true, true}, {"(all x 2 (eq x 0))", true, false}, {"(all x 2 (eq x 1))", true, false}, {"(ex x 2 (eq x 0))", true, true}, {"(ex x 2 (eq x 1))", true, true}, {"(ex x 2 (eq x 2))", true, false}, {"(ex x 6 (eq (mul x x) 25))", true, true},
		{"(all x 2 (eq x y))", false, false}, {"(ex x 2 (eq y x))", false, false}, {"(and (all x 2 top) (eq x 0))", false, false}, {"(or top (eq x x))", false, false}, {"(imp bot (eq x1 1))", false, false}, {"(all x 2 (ex y 3 (eq z 1)))", false, false}, {"(all x1 2 (eq x x1))", false, false}, {"(all x 2 (eq x00 x))", false, false},
		{"(all x 3 (ex y 3 (eq x y)))", true, true}, {"(ex x 3 (all y 3 (eq x y)))", true, false}, {"(all x 3 (ex y 2 (eq x y)))", true, false}, {"(all x 3 (imp (eq (mul x x) 4) (eq x 2)))", true, true}, {"(all x 3 (or (eq x 0) (ex y 2 (eq x (suc y)))))", true, true},
		// Names bound twice: the one within counts.
		{"(all x 2 (ex x 3 (eq x 2)))", true, true}, {"(ex x 3 (all x 2 (eq x 2)))", true, false}, {"(all x 3 (and (eq x x) (all x 1 (eq x 0))))", true, true}, {"(ex x 3 (and (eq x 2) (ex x 2 (eq x 1))))", true, true}, {"(ex x 3 (and (ex x 2 (eq x 1)) (eq x 2)))", true, true}, {"(all x 1 (ex y 2 (ex x 3 (and (eq x 2) (eq y 1)))))", true, true},
		{"(ex x 3 (ex x 2 (eq x 2)))", true, false}, {"(and (ex x 2 (eq x 1)) (all x 3 (eq x x)))", true, true},
		// Values that are too great are all the same.
		{"(eq (mul 60 (mul 60 (mul 60 60))) (mul 60 (mul 60 (mul 60 59))))", true, true}, {"(eq (mul (mul 20 50) (mul 20 50)) (suc (mul (mul 20 50) (mul 20 50))))", true, false}, {"(eq (suc (suc (mul (mul 20 50) (mul 20 50)))) (suc (mul (mul 20 50) (mul 20 50))))", true, true},
		{"(eq (mul 0 (mul 60 (mul 60 (mul 60 60)))) 0)", true, true}, {"(eq (mul 60 (mul 60 (mul 60 (mul 60 0)))) 0)", true, true},
	} {
		if !impl.FormulaValid(c.s) {
			t.Errorf("FormulaValid does not hold for %q", c.s)
		}
		if impl.FormulaClosed(c.s) != c.closed {
			t.Errorf("FormulaClosed returns %t for %q", !c.closed, c.s)
		}
		if impl.FormulaHolds(c.s) != c.holds {
			t.Errorf("FormulaHolds returns %t for %q", !c.holds, c.s)
		}
	}
	for _, s := range largeFormulas() {
		if !impl.FormulaValid(s) || !formulaByText(s) {
			t.Errorf("FormulaValid does not hold for %q", s)
		}
	}
}

// someFormulas are all small ones and some of more atoms, with and without names.
func someFormulas() []*logic {
	return slices.Concat(formulasUpTo(6), mixedFormulas(2000, 3), mixedFormulas(1000, 60), mixedFormulas(1500, 6, "x", "y", "z7", "v"), mixedFormulas(500, 3, "x"))
}

// Promise 43.
func TestFormulaValid(t *testing.T) {
	closed := 0
	for _, f := range someFormulas() {
		s := f.text()
		if !impl.FormulaValid(s) || impl.FormulaClosed(s) != f.closed() {
			t.Errorf("FormulaValid does not hold for %q, or FormulaClosed is wrong", s)
		}
		if f.closed() {
			closed++
		}
		for _, word := range []string{"and", "or"} {
			for _, both := range []*logic{of(word, f, &logic{word: "top"}), of(word, &logic{word: "top"}, f)} {
				want := both.atoms() <= 60
				if impl.FormulaValid(both.text()) != want || impl.FormulaClosed(both.text()) != (want && f.closed()) {
					t.Errorf("FormulaValid or FormulaClosed is wrong for %q", both.text())
				}
			}
		}
		if impl.FormulaValid("(imp "+s+" top)") != (f.simple() && f.atoms() <= 58) {
			t.Errorf("FormulaValid is wrong for what follows from %q", s)
		}
	}
	if closed < 2000 {
		t.Errorf("%d formulas are closed", closed)
	}
}

// Texts that are changed a bit are formulas, or not, by rewriting them.
func TestFormulaChanged(t *testing.T) {
	valid, invalid := 0, 0
	for _, f := range slices.Concat(mixedFormulas(50, 3), mixedFormulas(50, 60, "x", "y")) {
		s := f.text()
		if len(s) > 80 {
			continue
		}
		for i := range s {
			for _, c := range []string{"", " ", "(", ")", "x", "0", "1", "6", "7", "k", "-", "top", "(eq 1 x)"} {
				for _, changed := range []string{s[:i] + c + s[i:], s[:i] + c + s[i+1:]} {
					want := formulaByText(changed)
					if impl.FormulaValid(changed) != want {
						t.Fatalf("FormulaValid returns %t for %q", !want, changed)
					}
					if want {
						valid++
					} else {
						invalid++
					}
				}
			}
		}
	}
	if valid < 3000 || invalid < 3000 {
		t.Errorf("%d texts are formulas and %d are not", valid, invalid)
	}
}

// Promise 44.
func TestFormulaClosed(t *testing.T) {
	simple := 0
	for _, f := range someFormulas() {
		s := f.text()
		if !f.closed() {
			if impl.FormulaClosed(s) {
				t.Errorf("FormulaClosed holds for %q", s)
			}
			continue
		}
		for _, name := range []string{"x", "y", "z7", "w"} {
			if got, ok := impl.FormulaPut(s, name, 1); !ok || got != s {
				t.Errorf("FormulaPut returns %q for %q", got, s)
			}
		}
		if holds := impl.FormulaHolds(s); holds != f.holds(nil) {
			t.Errorf("FormulaHolds returns %t for %q", holds, s)
		} else if f.simple() && f.atoms() <= 58 {
			simple++
			if impl.FormulaHolds("(imp "+s+" bot)") == holds {
				t.Errorf("bot follows from %q, which holds, or does not from what does not", s)
			}
		}
	}
	if simple < 500 {
		t.Errorf("%d closed formulas are simple", simple)
	}
}

func TestFormulaPutTexts(t *testing.T) {
	for _, c := range []struct {
		s, name string
		n       int
		want    string
	}{
		{"top", "x", 1, "top"}, {"bot", "u", 0, "bot"}, {"(eq x y)", "x", 0, "(eq 0 y)"}, {"(eq x y)", "y", 60, "(eq x 60)"}, {"(eq x x)", "x", 10, "(eq 10 10)"}, {"(eq x y)", "z", 3, "(eq x y)"}, {"(eq x x1)", "x", 3, "(eq 3 x1)"}, {"(eq x x1)", "x1", 3, "(eq x 3)"}, {"(eq x01 x1)", "x1", 3, "(eq x01 3)"},
		{"(eq (suc x) (add x (mul y x)))", "x", 7, "(eq (suc 7) (add 7 (mul y 7)))"}, {"(and (eq x 1) (or (eq 2 x) (imp (eq x y) (eq x x))))", "x", 4, "(and (eq 4 1) (or (eq 2 4) (imp (eq 4 y) (eq 4 4))))"},
		{"(all x 2 (eq x y))", "y", 1, "(all x 2 (eq x 1))"}, {"(all x 2 (eq x y))", "x", 1, "(all x 2 (eq x y))"}, {"(ex x 2 (eq x y))", "y", 5, "(ex x 2 (eq x 5))"}, {"(ex x 2 (eq x y))", "x", 5, "(ex x 2 (eq x y))"},
		{"(and (eq x 1) (all x 2 (eq x y)))", "x", 3, "(and (eq 3 1) (all x 2 (eq x y)))"}, {"(and (ex x 2 (eq x y)) (eq y x))", "x", 3, "(and (ex x 2 (eq x y)) (eq y 3))"}, {"(all y 2 (and (eq x y) (ex x 3 (and (eq x y) (all y 2 (eq x y))))))", "x", 3, "(all y 2 (and (eq 3 y) (ex x 3 (and (eq x y) (all y 2 (eq x y))))))"},
		{"(all x 2 (ex x 3 (eq x y)))", "x", 9, "(all x 2 (ex x 3 (eq x y)))"}, {"(all x 2 (ex y 3 (eq x y)))", "y", 9, "(all x 2 (ex y 3 (eq x y)))"}, {"(all x 2 (and (ex y 3 (eq x y)) (eq x y)))", "y", 9, "(all x 2 (and (ex y 3 (eq x y)) (eq x 9)))"},
	} {
		if got, ok := impl.FormulaPut(c.s, c.name, c.n); !ok || got != c.want {
			t.Errorf("FormulaPut returns %q for %q, %q and %d, not %q", got, c.s, c.name, c.n, c.want)
		}
	}
}

// Promise 46.
func TestFormulaPut(t *testing.T) {
	names := []string{"x", "y", "z7", "v", "y1", "w"}
	together := 0
	for i, f := range someFormulas() {
		for _, name := range names {
			n := i * 7 % 61
			want := f.put(name, n)
			got, ok := impl.FormulaPut(f.text(), name, n)
			if !ok || got != want.text() || !impl.FormulaValid(got) || impl.FormulaClosed(got) != want.closed() {
				t.Fatalf("FormulaPut returns %q for %q, %q and %d", got, f.text(), name, n)
			}
		}
		free := slices.Compact(slices.Sorted(slices.Values(f.free())))
		if all := "(all x 3 " + f.text() + ")"; len(free) < 2 && (len(free) == 0 || free[0] == "x") && formulaByText(all) {
			together++
			holds := true
			for n := range 3 {
				put, _ := impl.FormulaPut(f.text(), "x", n)
				holds = holds && impl.FormulaHolds(put)
			}
			if impl.FormulaHolds(all) != holds {
				t.Errorf("FormulaHolds returns %t for %q", !holds, all)
			}
		}
	}
	if together < 1500 {
		t.Errorf("%d formulas have no other name", together)
	}
}

func TestFormulaPutFails(t *testing.T) {
	const f = "(all x 2 (eq x y))"
	for _, n := range []int{-1, 61, 62, 1000, -1 << 63, 1<<63 - 1} {
		for _, name := range []string{"x", "y"} {
			if got, ok := impl.FormulaPut(f, name, n); ok || got != "" {
				t.Errorf("FormulaPut returns %q for %d", got, n)
			}
		}
	}
	for _, name := range []string{"", " ", "k", "s", "a", "t", "X", "xx", "x ", " y", "x0000", "y1234", "1", "(x)", "top", "\xff", "y\x00", "(suc y)", strings.Repeat("y", 1000000)} {
		if got, ok := impl.FormulaPut(f, name, 1); ok || got != "" {
			t.Errorf("FormulaPut returns %q for the name %q", got, brief(name))
		}
	}
	for n, want := range map[int]string{0: "(all x 2 (eq x 0))", 60: "(all x 2 (eq x 60))"} {
		if got, ok := impl.FormulaPut(f, "y", n); !ok || got != want {
			t.Errorf("FormulaPut returns %q for %d", got, n)
		}
	}
	// As many atoms as there may be stay as many.
	if got, ok := impl.FormulaPut("(eq "+sucOf(57, "x")+" x)", "x", 60); !ok || got != "(eq "+sucOf(57, "60")+" 60)" {
		t.Errorf("FormulaPut returns %q", got)
	}
}

// million is 1000000.
const million = "(mul (mul 20 50) (mul 20 50))"

func TestExprValueTexts(t *testing.T) {
	for s, want := range map[string]int{
		"0": 0, "1": 1, "9": 9, "10": 10, "60": 60, "(suc 0)": 1, "(suc 60)": 61, "(suc (suc 5))": 7, "(add 0 0)": 0, "(add 60 60)": 120, "(add 2 (mul 3 4))": 14, "(mul (add 2 3) 4)": 20, "(mul 60 60)": 3600, "(mul 0 7)": 0, "(mul 7 0)": 0, "(mul 1 7)": 7, "(add (suc 1) (mul 2 (suc 3)))": 10,
		million: 1000000, "(add 0 " + million + ")": 1000000, "(mul 1 " + million + ")": 1000000, "(mul 0 (suc " + million + "))": 0, "(mul (mul 60 (mul 60 (mul 60 60))) 0)": 0, "(mul (mul 60 (mul 60 (mul 60 60))) (mul 0 x))": -1, "(mul 0 (mul " + million + " " + million + "))": 0,
		"(suc " + million + ")": -1, "(add " + million + " 1)": -1, "(add 1 " + million + ")": -1, "(mul 2 " + million + ")": -1, "(mul " + million + " " + million + ")": -1, "(mul 60 (mul 60 (mul 60 60)))": -1, "(suc (suc " + million + "))": -1, "(add (suc " + million + ") 0)": -1, "(mul 1 (suc " + million + "))": -1,
		"x": -1, "u": -1, "z999": -1, "(suc x)": -1, "(add x 1)": -1, "(add 1 x)": -1, "(mul 0 x)": -1, "(mul x 0)": -1, "(add (suc " + million + ") x)": -1, "(add x (suc " + million + "))": -1,
		sucOf(59, "1"): 60, sucOf(60, "1"): -1, sucOf(58, "(mul 1 1)"): -1, sucOf(57, "(mul 1 1)"): 58, sucOf(100000, "1"): -1,
	} {
		got, ok := impl.ExprValue(s)
		if ok != (want >= 0) || got != max(want, 0) {
			t.Errorf("ExprValue returns %d for %q, not %d", got, s, want)
		}
	}
	for _, s := range slices.Concat(noExpressions(), largeNoFormulas(), largeFormulas(), []string{"top", "bot", "(eq 1 1)", "(and top top)", "(ex x 2 top)"}) {
		if got, ok := impl.ExprValue(s); ok || got != 0 {
			t.Errorf("ExprValue returns %d for %q", got, brief(s))
		}
	}
}

func TestExprChanged(t *testing.T) {
	m := &mixer{seed: 6, most: 60}
	valid := 0
	for range 60 {
		s := m.expression(3).text()
		for i := range s {
			for _, c := range []string{"", " ", "(", ")", "x", "0", "1", "6", "-", "(suc 2)"} {
				for _, changed := range []string{s[:i] + c + s[i:], s[:i] + c + s[i+1:]} {
					_, ok := impl.ExprValue(changed)
					want := expressionByText(changed) && !strings.Contains(changed, "x")
					// No value is too great here, as there are few numbers.
					if ok != want && wordsByText(changed) < 6 {
						t.Fatalf("ExprValue returns %t for %q", ok, changed)
					}
					if ok {
						valid++
					}
				}
			}
		}
	}
	if valid < 500 {
		t.Errorf("%d texts are expressions", valid)
	}
}

// Promise 50.
func TestExprValue(t *testing.T) {
	m := &mixer{seed: 50, most: 60}
	good, great := 0, 0
	list := slices.Concat(expressionsOf(1), expressionsOf(3), expressionsOf(5))
	for n := range 5000 {
		list = append(list, m.expression(n%6))
	}
	for _, e := range list {
		s := e.text()
		want := e.value(nil)
		got, ok := impl.ExprValue(s)
		if ok != (e.closed() && want <= 1000000 && e.atoms() <= 60) || ok && got != want || !ok && got != 0 {
			t.Fatalf("ExprValue returns %d, %t for %q, not %d", got, ok, s, want)
		}
		if !ok {
			great++
			continue
		}
		good++
		if next, ok := impl.ExprValue("(suc " + s + ")"); ok && next != got+1 || ok != (got < 1000000 && e.atoms() < 60) {
			t.Errorf("ExprValue returns %d for suc of %q, which is %d", next, s, got)
		}
		equal := "(eq " + s + " " + s + ")"
		if impl.FormulaHolds(equal) != (e.atoms() < 30) || impl.FormulaValid(equal) != (e.atoms() < 30) {
			t.Errorf("FormulaHolds is wrong for %q", equal)
		}
	}
	if good < 2000 || great < 100 {
		t.Errorf("ExprValue succeeds %d times and fails %d times", good, great)
	}
}

func TestTestsOfTexts(t *testing.T) {
	one, two := numeralText(1), numeralText(2)
	yes, no := pairText("k", identity), pairText(falseText, identity)
	for _, c := range []struct {
		s    string
		want []string
	}{
		{"top", []string{identity}}, {"bot", nil}, {"(eq 1 1)", []string{identity}}, {"(eq 1 2)", nil}, {"(or (eq 1 1) top)", []string{yes, no}}, {"(or top bot)", []string{yes}}, {"(or bot top)", []string{no}}, {"(or bot bot)", nil},
		{"(and top top)", []string{pairText(identity, identity)}}, {"(and top bot)", nil}, {"(and bot top)", nil}, {"(and (or top top) top)", []string{pairText(yes, identity), pairText(no, identity)}},
		{"(and (or top top) (or top top))", []string{pairText(yes, yes), pairText(yes, no), pairText(no, yes), pairText(no, no)}}, {"(or (or top top) top)", []string{pairText("k", yes), pairText("k", no), no}},
		{"(ex x 3 top)", []string{pairText(identity, identity), pairText(one, identity), pairText(two, identity)}}, {"(ex x 3 (eq x 2))", []string{pairText(two, identity)}}, {"(ex x 2 (eq x 2))", nil},
		{"(ex x 2 (ex y 3 (eq (add x y) 2)))", []string{pairText(identity, pairText(two, identity)), pairText(one, pairText(one, identity))}}, {"(ex x 2 (ex x 3 (eq x 2)))", []string{pairText(identity, pairText(two, identity)), pairText(one, pairText(two, identity))}},
		{"(ex x 2 (or (eq x 1) (eq x x)))", []string{pairText(identity, no), pairText(one, yes), pairText(one, no)}}, {"(eq (mul 60 (mul 60 (mul 60 60))) (mul 60 (mul 60 (mul 60 59))))", []string{identity}},
	} {
		if got, ok := impl.TestsOf(c.s); !ok || !slices.Equal(got, c.want) {
			t.Errorf("TestsOf returns %q for %q, not %q", got, c.s, c.want)
		}
	}
	for _, s := range []string{
		"(imp top top)", "(imp bot bot)", "(all x 1 top)", "(and top (all x 2 top))", "(or (imp top top) top)", "(ex x 2 (all y 2 top))", "(ex x 2 (imp top (eq x 1)))", "(eq x x)", "(ex x 2 (eq y x))", "(or top (eq x 1))", "(and bot (eq x 1))", "(and (ex x 2 (eq x 1)) (eq x 0))",
	} {
		if got, ok := impl.TestsOf(s); ok || len(got) > 0 {
			t.Errorf("TestsOf returns %q for %q", got, s)
		}
	}
}

// Promise 47.
func TestTestsOf(t *testing.T) {
	good, many := 0, 0
	for _, f := range slices.Concat(formulasUpTo(6), mixedFormulas(2000, 3), mixedFormulas(1000, 6)) {
		if !f.closed() || !f.simple() {
			if got, ok := impl.TestsOf(f.text()); ok || len(got) > 0 {
				t.Errorf("TestsOf returns %q for %q", got, f.text())
			}
			continue
		}
		want, few := f.tests(nil)
		got, ok := impl.TestsOf(f.text())
		if ok != few || few && !slices.Equal(got, want) || !few && len(got) > 0 {
			t.Fatalf("TestsOf returns %d tests for %q, not %d", len(got), f.text(), len(want))
		}
		if (len(want) > 0) != impl.FormulaHolds(f.text()) {
			t.Errorf("FormulaHolds is wrong for %q, which has %d tests", f.text(), len(want))
		}
		good++
		if len(got) > 3 {
			many++
		}
		known := map[string]bool{}
		for i, test := range got {
			if !impl.TermClosed(test) || !impl.TermNormal(test) || known[test] {
				t.Errorf("TestsOf returns %q for %q", got, f.text())
			}
			known[test] = true
			if i < 10 && !impl.RealizeIs(test, f.text()) {
				t.Errorf("RealizeIs does not hold for the test %q of %q", test, f.text())
			}
		}
	}
	if good < 800 || many < 50 {
		t.Errorf("TestsOf succeeds %d times, %d times with more than 3 tests", good, many)
	}
}

// These have just 500 tests, and one or more too many.
const (
	fiveHundred   = "(ex x 5 (ex y 5 (ex z 5 (or top (or top (or top top))))))"
	fiveHundredOr = "(or (ex x 6 (ex y 6 (ex z 6 (or top top)))) (or (ex x 2 (ex y 2 (ex z 4 (or top (or top (or top top)))))) (or top (or top (or top top)))))"
	oneTooMany    = "(or " + fiveHundred + " top)"
)

// manyTests have too many tests, or a part of them has.
func manyTests() []string {
	return []string{
		oneTooMany, "(or top " + fiveHundred + ")", "(or " + fiveHundredOr + " top)", "(and (or top top) " + fiveHundred + ")", "(and " + fiveHundred + " (or top top))", "(ex x 2 " + strings.ReplaceAll(fiveHundred, "5", "4") + ")",
		"(ex x 3 " + strings.ReplaceAll(fiveHundred, "5", "4") + ")", "(ex x 6 (ex x 6 (ex x 6 (or top (or top top)))))",
		// Of the whole there are none, but too many of a part.
		"(and bot " + oneTooMany + ")", "(and " + oneTooMany + " bot)", "(and (eq 1 2) (and " + fiveHundred + " (or top top)))", "(and bot (and bot " + oneTooMany + "))", "(ex x 2 (and (eq x 2) " + oneTooMany + "))", "(or bot (and bot " + oneTooMany + "))",
		"(and (ex x 1 bot) (or top " + oneTooMany + "))", "(ex u 2 (and " + oneTooMany + " (eq u 1)))",
	}
}

func TestTestsMax(t *testing.T) {
	if impl.TestsMax != 500 {
		t.Errorf("the greatest number of tests is %d", impl.TestsMax)
	}
	for s, want := range map[string]int{
		fiveHundred: 500, strings.Replace(fiveHundred, "top)", "bot)", 1): 375, "(and top " + fiveHundred + ")": 500, "(or bot " + fiveHundred + ")": 500, "(or " + fiveHundred + " bot)": 500, "(ex x 1 " + fiveHundred + ")": 500,
		"(ex w 2 (and (eq w 1) " + strings.ReplaceAll(fiveHundred, "5", "4") + "))": 256, "(and bot " + fiveHundred + ")": 0, "(and " + fiveHundred + " bot)": 0,
	} {
		got, ok := impl.TestsOf(s)
		if !ok || len(got) != want {
			t.Errorf("TestsOf returns %d tests for %q, not %d", len(got), s, want)
		}
		if want > 0 && (!impl.RealizeIs(got[0], s) || !impl.RealizeIs(got[want-1], s)) {
			t.Errorf("RealizeIs does not hold for tests of %q", s)
		}
	}
	for _, s := range manyTests() {
		if !formulaByText(s) || !impl.FormulaClosed(s) {
			t.Errorf("FormulaClosed does not hold for %q", s)
			continue
		}
		if got, ok := impl.TestsOf(s); ok || len(got) > 0 {
			t.Errorf("TestsOf returns %d tests for %q", len(got), s)
		}
		if c, ok := impl.CanonOf(s); ok != impl.FormulaHolds(s) || ok && impl.RealizeIs(c, s) {
			t.Errorf("CanonOf fails for %q, or RealizeIs holds for it", s)
		}
	}
}

const kIdentity = falseText

func TestRealizeIsTexts(t *testing.T) {
	one, two := numeralText(1), numeralText(2)
	next := abstractByText("x", pairText(app(succText, "x"), identity))
	swap := abstractByText("x", app("x", "k", pairText(falseText, identity), pairText("k", identity)))
	for _, c := range []struct {
		r, s string
		want bool
	}{
		{identity, "top", true}, {"k", "top", false}, {app("k", identity, "s"), "top", true}, {app("s", "k", "s"), "top", false}, {identity, "bot", false}, {endless, "top", false}, {growing, "top", false}, {app("k", identity, endless), "top", true},
		{identity, "(eq 1 1)", true}, {identity, "(eq 1 2)", false}, {"s", "(eq 1 1)", false}, {pairText("k", identity), "(or top bot)", true}, {pairText(falseText, identity), "(or top bot)", false}, {pairText("k", identity), "(or bot top)", false}, {identity, "(or top top)", false},
		{pairText("k", app("k", identity, "s")), "(or top bot)", true}, {app(data(t, "pair"), "k", identity), "(or top bot)", true}, {pairText(identity, identity), "(and top top)", true}, {pairText(identity, "k"), "(and top top)", false}, {pairText("k", identity), "(and top top)", false},
		{pairText(one, identity), "(ex x 2 (eq x 1))", true}, {pairText(identity, identity), "(ex x 2 (eq x 1))", false}, {pairText(two, identity), "(ex x 2 top)", false}, {pairText(one, "k"), "(ex x 2 top)", false},
		// Nothing is asked of what follows from what does not hold.
		{"k", "(imp bot bot)", true}, {identity, "(imp bot bot)", true}, {endless, "(imp bot bot)", true}, {growing, "(imp bot top)", true}, {"s", "(imp (eq 1 2) (all x 2 (eq x 5)))", true}, {"k", "(imp (and top bot) bot)", true}, {"k", "(imp (ex x 3 (eq x 3)) bot)", true},
		{endless, "(imp (or bot (eq 0 1)) (imp top bot))", true}, {"s", "(imp (and bot top) (eq 1 2))", true}, {"s", "(all x 2 (imp (eq x 2) bot))", true}, {"(k k)", "(all x 2 (imp (eq x 1) bot))", false}, {endless, "(all x 6 (imp (eq x 6) bot))", true},
		{pairText(one, "s"), "(ex x 2 (imp (eq x 0) bot))", true}, {pairText(identity, "s"), "(ex x 2 (imp (eq x 0) bot))", false}, {pairText("k", "s"), "(or (imp bot bot) bot)", true}, {pairText(falseText, "s"), "(or (imp bot bot) bot)", false}, {pairText("s", "s"), "(or (imp bot bot) (imp bot bot))", false}, {endless, "(or (imp bot bot) top)", false},
		{endless, "(and (imp bot bot) (imp bot bot))", true}, {"k", "(and (imp bot bot) (imp bot top))", true}, {pairText(endless, kIdentity), "(and (imp bot bot) (all x 1 top))", true}, {pairText(kIdentity, endless), "(and (imp bot bot) (all x 1 top))", false}, {pairText(kIdentity, endless), "(and (all x 1 top) (imp bot bot))", true},
		{identity, "(imp top top)", true}, {"k", "(imp top top)", false}, {kIdentity, "(imp top top)", true}, {identity, "(imp top bot)", false}, {kIdentity, "(imp top bot)", false}, {endless, "(imp top top)", false}, {identity, "(imp (or top top) (or top top))", true}, {kIdentity, "(imp (or top top) top)", true},
		{swap, "(imp (or top bot) (or bot top))", true}, {swap, "(imp (or top top) (or top top))", true}, {identity, "(imp (or top bot) (or bot top))", false}, {swap, "(imp (or top top) (or top bot))", false}, {identity, "(imp (ex x 3 (eq x 2)) (ex y 3 top))", true}, {identity, "(imp (ex x 3 top) (ex y 2 top))", false},
		{app("k", kIdentity), "(imp top (imp top top))", true}, {"k", "(imp top (imp top top))", true}, {"s", "(imp top (imp top top))", false}, {kIdentity, "(imp top (imp bot bot))", true}, {identity, "(imp (and top bot) (imp top bot))", true}, {firstText, "(imp (and (or top top) top) (or top top))", true}, {secondText, "(imp (and (or top top) top) (or top top))", false},
		{kIdentity, "(all x 2 (eq x x))", true}, {kIdentity, "(all x 2 (eq x 0))", false}, {identity, "(all x 1 (eq x x))", true}, {identity, "(all x 2 (eq x x))", false}, {"k", "(all x 2 top)", false}, {next, "(all x 3 (ex y 4 (eq y (suc x))))", true}, {next, "(all x 3 (ex y 3 (eq y (suc x))))", false}, {next, "(all x 3 (ex y 4 (eq y x)))", false},
		{app("k", kIdentity), "(all x 6 (all y 6 (eq (add x y) (add y x))))", true}, {kIdentity, "(all x 2 (all y 1 top))", true}, {kIdentity, "(all x 2 (all y 2 top))", false}, {"k", "(all x 1 (all y 6 top))", true}, {"k", "(all x 2 (all y 6 top))", false},
		{pairText(one, kIdentity), "(ex x 2 (all y 3 (eq (mul x y) y)))", true}, {pairText(identity, kIdentity), "(ex x 2 (all y 3 (eq (mul x y) y)))", false}, {pairText(one, kIdentity), "(ex x 2 (all y 2 top))", true}, {pairText(two, kIdentity), "(ex x 2 (all y 2 top))", false}, {pairText(two, kIdentity), "(ex x 3 (all y 2 top))", true}, {pairText("k", kIdentity), "(ex x 2 (all y 2 top))", false},
		{pairText("k", kIdentity), "(or (all x 2 top) (all x 2 bot))", true}, {pairText(falseText, kIdentity), "(or (all x 2 top) (all x 2 bot))", false}, {pairText(falseText, kIdentity), "(or (all x 2 bot) (all x 2 top))", true}, {pairText(identity, kIdentity), "(or (all x 2 top) (all x 2 top))", false}, {pairText("s", kIdentity), "(or (all x 2 top) (all x 2 top))", false},
		{pairText(kIdentity, kIdentity), "(and (all x 2 top) (all y 2 top))", true}, {pairText(kIdentity, identity), "(and (all x 2 top) (all y 2 top))", false}, {pairText("s", kIdentity), "(and (all x 2 top) (all y 2 top))", false}, {pairText(identity, kIdentity), "(and top (all y 2 top))", true}, {pairText(kIdentity, identity), "(and top (all y 2 top))", false},
		// Of a part that is simple it is only what it comes to that counts, and not the way there.
		{app("k", pairText(app("k", identity, "k"), app("s", "k", endless)), "k"), "(and top (all y 2 top))", false}, {app("k", pairText(app("k", identity, endless), kIdentity), "k"), "(and top (all y 2 top))", true},
		// What does not come to a normal term realizes nothing that asks for it.
		{endless, "(or (all x 1 top) bot)", false}, {endless, "(ex x 2 (all y 1 top))", false}, {growing, "(ex x 2 (imp bot bot))", false}, {growing, "(or (imp bot bot) bot)", false}, {pairText(endless, kIdentity), "(or (all x 2 top) (all x 2 top))", false}, {pairText(endless, kIdentity), "(ex x 2 (all y 2 top))", false}, {app("k", growing), "(all x 1 top)", false},
		// Names bound twice.
		{app("k", pairText(two, identity)), "(all x 2 (ex x 3 (eq x 2)))", true}, {abstractByText("x", pairText("x", identity)), "(all x 2 (ex x 3 (eq x 2)))", false}, {abstractByText("x", pairText("x", identity)), "(all x 2 (ex y 3 (eq x y)))", true}, {app("k", kIdentity), "(all x 2 (all x 1 (eq x 0)))", true}, {app("k", kIdentity), "(all x 1 (all x 2 (eq x 0)))", false},
		{pairText(two, kIdentity), "(ex x 3 (and (eq x 2) (all x 1 (eq x 0))))", true}, {pairText(two, pairText(identity, kIdentity)), "(ex x 3 (and (eq x 2) (all x 1 (eq x 0))))", true}, {pairText(one, pairText(identity, kIdentity)), "(ex x 3 (and (eq x 2) (all x 1 (eq x 0))))", false},
		// Formulas that are not closed.
		{identity, "(eq x x)", false}, {"k", "(imp bot (eq x x))", false}, {"k", "(imp (eq x 1) top)", false}, {kIdentity, "(all x 2 (eq x y))", false}, {kIdentity, "(all x 2 (eq 1 u))", false}, {pairText(identity, identity), "(ex x 2 (eq y y))", false}, {pairText("k", identity), "(or top (eq y y))", false},
	} {
		if impl.RealizeIs(c.r, c.s) != c.want {
			t.Errorf("RealizeIs returns %t for %q and %q", !c.want, c.r, c.s)
		}
	}
	for _, r := range noClosed() {
		for _, s := range []string{"top", "(imp bot bot)", "(all x 1 top)"} {
			if impl.RealizeIs(r, s) {
				t.Errorf("RealizeIs holds for %q", brief(r))
			}
		}
	}
}

// realizersFor are terms of which some realize a formula.
func realizersFor(f *logic, m *mixer) []string {
	list := append(termsUpTo(3, []string{"k", "s"}), identity, kIdentity, app("k", kIdentity), pairText(identity, identity), pairText("k", kIdentity), pairText(falseText, kIdentity), abstractByText("x", pairText("x", identity)))
	if f.simple() {
		tests, _ := f.tests(nil)
		list = append(list, tests[:min(len(tests), 3)]...)
	}
	for n := range 6 {
		list = append(list, pairText(numeralText(n%4), list[m.choice(len(list))]), pairText(list[m.choice(len(list))], list[m.choice(len(list))]), app("k", list[m.choice(len(list))]))
	}
	if !f.holds(nil) {
		return list
	}
	canon := f.canon(nil)
	if len(canon) > 1200 {
		return append(list, canon)
	}
	list = append(list, canon, app("k", canon, "s"), pairText("s", canon), app(app("s", "k"), "k", canon))
	if other := changed(canon); len(other) > 0 {
		for range 8 {
			list = append(list, other[m.choice(len(other))])
		}
	}
	return list
}

// Promise 48.
func TestRealizeIs(t *testing.T) {
	m := &mixer{seed: 48}
	realized, not := 0, 0
	for _, f := range slices.Concat(formulasUpTo(5), mixedFormulas(400, 3), mixedFormulas(100, 6)) {
		if !f.closed() {
			if impl.RealizeIs(identity, f.text()) {
				t.Errorf("RealizeIs holds for %q", f.text())
			}
			continue
		}
		for _, r := range realizersFor(f, m) {
			want := impl.TermClosed(r) && f.realized(r, nil)
			if impl.RealizeIs(r, f.text()) != want {
				t.Fatalf("RealizeIs returns %t for %q and %q", !want, r, f.text())
			}
			if !want {
				not++
				continue
			}
			realized++
			if !impl.FormulaHolds(f.text()) {
				t.Errorf("FormulaHolds does not hold for %q, which %q realizes", f.text(), r)
			}
		}
	}
	if realized < 3000 || not < 3000 {
		t.Errorf("RealizeIs holds %d times and does not %d times", realized, not)
	}
}

func TestRealizeIsLimits(t *testing.T) {
	for steps, want := range map[int]bool{5000: true, 5998: true, 5999: true, 6000: false, 6001: false} {
		// It takes a step more to come to i.
		slow := app(slowClosed(t, steps), identity, "s")
		if impl.RealizeIs(slow, "top") != want {
			t.Errorf("RealizeIs returns %t for %d steps", !want, steps+1)
		}
		if !impl.RealizeIs(slow, "(imp bot bot)") {
			t.Errorf("RealizeIs does not hold for %d steps that are not taken", steps+1)
		}
		slow = app("k", app(slowClosed(t, steps-1), identity, "s"))
		if impl.RealizeIs(slow, "(all x 1 top)") != want || impl.RealizeIs(slow, "(imp top top)") != want {
			t.Errorf("RealizeIs returns %t for %d steps behind what it is applied to", !want, steps+1)
		}
	}
}

// What is no term realizes nothing, even where no step is taken: of each
// formula the largest term that realizes it is told by its atoms.
func TestRealizeIsTerms(t *testing.T) {
	for s, most := range map[string]int{
		"(imp bot bot)": 3000, "(imp bot top)": 3000, "(imp bot (imp top (all x 6 top)))": 3000, "(imp (eq 1 2) (and (imp bot top) top))": 3000,
		"(all x 1 (imp bot top))": 2997, "(all x 2 (imp bot top))": 2986, "(all x 3 (imp (eq x 3) bot))": 2975, "(all x 1 (all y 1 (imp bot top)))": 2994, "(all x 1 (all y 2 (imp bot top)))": 2983,
		"(imp top (imp bot top))": 2997, "(imp (eq 1 1) (imp bot bot))": 2997, "(imp top (imp top (imp bot top)))": 2994, "(imp top (all x 1 (imp bot top)))": 2994, "(imp (or top bot) (imp bot top))": 2989, "(imp (or bot top) (imp bot top))": 2986, "(imp (or top top) (imp bot top))": 2986,
		"(and (imp bot top) (imp bot top))": 2991, "(and (imp bot bot) (and (imp bot bot) (imp bot top)))": 2982, "(and (and (imp bot bot) (imp bot top)) (imp bot bot))": 2985, "(and (imp bot top) (imp top (imp bot top)))": 2988, "(and (imp top (imp bot top)) (imp bot top))": 2991, "(and (all x 2 (imp bot top)) (imp bot top))": 2980,
		"(all x 2 (and (imp bot bot) (imp top (imp bot top))))": 2974,
	} {
		for _, atoms := range []int{1, 1000, most - 1, most, most + 1, 3000, 3001} {
			if want := atoms <= most; impl.RealizeIs(flat(atoms, "k"), s) != want {
				t.Errorf("RealizeIs returns %t for %q and a term of %d atoms", !want, s, atoms)
			}
		}
		if impl.RealizeIs(flat(1000, "k")+" ", s) || impl.RealizeIs(flat(1000, "x"), s) {
			t.Errorf("RealizeIs holds for %q and what is no closed term", s)
		}
	}
	for s, most := range map[string]int{
		"(imp bot bot)": 1500, "(all x 1 (imp bot top))": 1499, "(all x 6 (imp bot top))": 1499, "(imp top (imp bot top))": 1499, "(imp top (imp top (imp bot top)))": 1498, "(and (imp bot top) (imp bot top))": 1499, "(and (imp bot bot) (and (imp bot bot) (imp bot top)))": 1498, "(and (and (imp bot bot) (imp bot top)) (imp bot bot))": 1498,
	} {
		for depth := most - 2; depth <= 1502; depth++ {
			r := strings.Repeat("(k ", depth) + "k" + strings.Repeat(")", depth)
			if want := depth <= most; impl.RealizeIs(r, s) != want {
				t.Errorf("RealizeIs returns %t for %q and %d parentheses within each other", !want, s, depth)
			}
		}
	}
}

// What a realizer is applied to may make it too large for a term, as may first
// and second, which have it several times on the way.
func TestRealizeIsLarge(t *testing.T) {
	kTwice := app("k", kIdentity)
	for _, c := range []struct {
		f *logic
		r string
		// least and most are in the range of the greatest number of atoms.
		least, most int
	}{
		{boundOf("all", "x", 1, word("top")), kIdentity, 2997, 2997},
		{of("imp", word("top"), word("top")), kIdentity, 2997, 2997},
		{boundOf("all", "x", 1, boundOf("all", "y", 1, word("top"))), kTwice, 2994, 2994},
		{of("or", boundOf("all", "x", 1, word("top")), word("bot")), pairText("k", kIdentity), 500, 999},
		{boundOf("ex", "y", 1, boundOf("all", "x", 1, word("top"))), pairText(identity, kIdentity), 500, 999},
		{of("and", boundOf("all", "x", 1, word("top")), word("top")), pairText(kIdentity, identity), 500, 999},
		{of("and", word("top"), boundOf("all", "x", 1, word("top"))), pairText(identity, kIdentity), 500, 999},
		{of("and", of("imp", word("bot"), word("bot")), of("or", word("bot"), word("top"))), pairText("s", pairText(falseText, identity)), 500, 999},
	} {
		with := func(atoms int) string { return app("k", c.r, flat(atoms-1-atomsByText(c.r), "s")) }
		tooMany := sort.Search(3000, func(atoms int) bool { return atoms > 100 && !c.f.realized(with(atoms), nil) })
		if tooMany <= c.least || tooMany > c.most+1 {
			t.Errorf("%d atoms are too many for %q", tooMany, c.f.text())
		}
		for _, atoms := range []int{100, tooMany - 2, tooMany - 1, tooMany, tooMany + 1} {
			if want := atoms < tooMany; impl.RealizeIs(with(atoms), c.f.text()) != want {
				t.Errorf("RealizeIs returns %t for %q and a realizer with %d atoms", !want, c.f.text(), atoms)
			}
		}
	}
}

// RealizeIs does not hold if there are too many tests on the way, and holds if these are not on the way.
func TestRealizeIsTests(t *testing.T) {
	for s, want := range map[string]bool{
		"(imp " + fiveHundred + " top)": true, "(imp " + oneTooMany + " top)": false, "(imp " + fiveHundredOr + " top)": true, "(imp (or " + fiveHundredOr + " top) top)": false, "(imp (and bot " + oneTooMany + ") bot)": false, "(imp (and " + oneTooMany + " bot) top)": false,
		"(imp (ex x 2 (and (eq x 2) " + oneTooMany + ")) bot)": false, "(imp bot " + oneTooMany + ")": true, "(imp bot (imp " + oneTooMany + " bot))": true, "(all x 2 (imp (eq x 2) " + oneTooMany + "))": true, "(all x 2 (imp (and (eq x 2) " + oneTooMany + ") bot))": false, "(all x 2 (imp (and (eq x 2) " + fiveHundred + ") bot))": true,
	} {
		if impl.RealizeIs(kIdentity, s) != want {
			t.Errorf("RealizeIs returns %t for %q", !want, s)
		}
	}
	// Of the other part nothing is asked.
	if r := pairText("k", kIdentity); !impl.RealizeIs(r, "(or (all x 1 top) "+oneTooMany+")") || !impl.RealizeIs(r, "(or (imp top top) (imp "+oneTooMany+" top))") || impl.RealizeIs(pairText(falseText, kIdentity), "(or (imp top top) (imp "+oneTooMany+" top))") {
		t.Errorf("RealizeIs asks for tests of what it does not realize")
	}
	if r := pairText(identity, kIdentity); !impl.RealizeIs(r, "(ex w 2 (imp (eq w 0) top))") || impl.RealizeIs(r, "(ex w 2 (imp "+oneTooMany+" top))") {
		t.Errorf("RealizeIs is wrong for too many tests")
	}
}

func TestCanonOfTexts(t *testing.T) {
	one := numeralText(1)
	for _, c := range []struct{ s, want string }{
		{"top", identity}, {"(eq 1 1)", identity}, {"(eq (add 1 2) 3)", identity}, {"(and top top)", pairText(identity, identity)}, {"(and top (or top bot))", pairText(identity, pairText("k", identity))}, {"(or top bot)", pairText("k", identity)}, {"(or bot top)", pairText(falseText, identity)}, {"(or top top)", pairText("k", identity)},
		{"(imp top top)", app("k", identity)}, {"(imp bot top)", app("k", identity)}, {"(imp bot bot)", identity}, {"(imp (eq 1 2) (eq 3 4))", identity}, {"(imp bot (or bot top))", app("k", pairText(falseText, identity))}, {"(imp top (imp top top))", app("k", app("k", identity))}, {"(imp top (imp bot bot))", app("k", identity)}, {"(imp bot (imp top bot))", identity},
		{"(ex x 3 top)", pairText(identity, identity)}, {"(ex x 3 (eq x 1))", pairText(one, identity)}, {"(ex x 4 (or (eq x 3) (eq x 1)))", pairText(one, pairText(falseText, identity))}, {"(ex x 2 (ex x 3 (eq x 2)))", pairText(identity, pairText(numeralText(2), identity))}, {"(ex x 2 (imp top (eq x 1)))", pairText(one, app("k", identity))}, {"(ex x 2 (imp (eq x 0) bot))", pairText(one, identity)},
		{"(all x 1 top)", app("k", identity)}, {"(all x 1 (ex y 2 (eq y (suc x))))", app("k", pairText(one, identity))}, {"(all x 2 top)", app("s", app("s", firstText, app("k", identity)), app("k", identity))}, {"(all x 2 (ex y 2 (eq x y)))", app("s", app("s", firstText, app("k", pairText(identity, identity))), app("k", pairText(one, identity)))},
		{"(all x 3 top)", app("s", app("s", firstText, app("k", identity)), app("s", app("s", app("s", app("k", firstText), predData), app("k", identity)), app("k", identity)))},
		{"(all x 1 (all y 1 top))", app("k", app("k", identity))}, {"(all x 2 (imp (eq x 0) bot))", ""}, {"(all x 2 (imp (eq x 2) bot))", app("s", app("s", firstText, app("k", identity)), app("k", identity))}, {"(all x 2 (all x 1 (eq x 0)))", app("s", app("s", firstText, app("k", app("k", identity))), app("k", app("k", identity)))},
		{"bot", ""}, {"(eq 1 2)", ""}, {"(and top bot)", ""}, {"(and bot top)", ""}, {"(or bot bot)", ""}, {"(imp top bot)", ""}, {"(ex x 2 (eq x 2))", ""}, {"(all x 2 (eq x 0))", ""}, {"(all x 2 (eq x 1))", ""}, {"(eq x x)", ""}, {"(imp bot (eq x x))", ""}, {"(all x 2 (eq x y))", ""}, {"(or top (eq y y))", ""}, {"(and (ex x 2 (eq x 1)) (eq x x))", ""},
	} {
		if got, ok := impl.CanonOf(c.s); ok != (c.want != "") || got != c.want {
			t.Errorf("CanonOf returns %q for %q, not %q", got, c.s, c.want)
		}
	}
}

// wideFormulas hold for all numbers of up to three names, so that their realizers are large.
func wideFormulas() []*logic {
	var list []*logic
	for _, body := range []*logic{word("top"), of("imp", of("eq", word("x"), word("y")), of("eq", word("y"), word("x"))), boundOf("ex", "z", 1, of("or", word("bot"), of("eq", word("z"), word("0"))))} {
		for x := 1; x <= 6; x++ {
			for y := 1; y <= 6; y += 2 {
				inner := boundOf("all", "x", x, boundOf("all", "y", y, body))
				list = append(list, inner, boundOf("all", "y", 2, inner), boundOf("all", "z", 6, inner))
			}
		}
	}
	return list
}

// Promise 49.
func TestCanonOf(t *testing.T) {
	good, large, not := 0, 0, 0
	for _, f := range slices.Concat(formulasUpTo(6), mixedFormulas(2000, 3), mixedFormulas(600, 6), wideFormulas()) {
		got, ok := impl.CanonOf(f.text())
		if !f.closed() || !f.holds(nil) {
			not++
			if ok || got != "" {
				t.Errorf("CanonOf returns %q for %q", got, f.text())
			}
			continue
		}
		want := f.canon(nil)
		if fits := impl.TermValid(want); ok != fits || fits && got != want || !fits && got != "" {
			t.Fatalf("CanonOf returns %q for %q, not %q", got, f.text(), want)
		}
		if !ok {
			large++
			continue
		}
		good++
		if !impl.TermClosed(got) || !impl.FormulaHolds(f.text()) {
			t.Errorf("CanonOf returns %q for %q", got, f.text())
		}
		if both, ok := impl.CanonOf("(and " + f.text() + " top)"); ok {
			if first, second, ok := impl.PairParts(both); !ok || first != got || second != identity {
				t.Errorf("CanonOf returns %q for %q together with top", both, f.text())
			}
		} else if f.atoms() <= 58 && atomsByText(got) <= 2990 {
			t.Errorf("CanonOf fails for %q together with top", f.text())
		}
	}
	if good < 1000 || large < 10 || not < 500 {
		t.Errorf("CanonOf succeeds %d times, and fails %d times for what holds and %d times for what does not", good, large, not)
	}
}

func TestCanonOfLimit(t *testing.T) {
	// It has 2977 atoms, and one more for each imp ahead.
	const wide = "(and top (and top (all x 4 (all y 5 (all z 4 top)))))"
	for imps, want := range map[int]int{0: 2997, 2: 2999, 3: 3000, 4: -1, 5: -1} {
		got, ok := impl.CanonOf(strings.Repeat("(imp top ", imps) + wide + strings.Repeat(")", imps))
		if n := impl.TermSize(got); ok != (want > 0) || n != want || !ok && got != "" {
			t.Errorf("CanonOf returns a term of %d atoms, not %d", n, want)
		}
	}
	for _, s := range []string{exOf("all", "666", "(eq x0 x0)"), exOf("all", "22222222", "top"), exOf("all", "6552", "(ex y 1 top)"), exOf("all", "655", "(imp bot bot)")} {
		want := formulaByText(s) && impl.FormulaHolds(s)
		if got, ok := impl.CanonOf(s); ok || got != "" || !want {
			t.Errorf("CanonOf returns %q for %q", brief(got), s)
		}
	}
}

// Promise 45.
func TestCanonOfRealizes(t *testing.T) {
	great := regexp.MustCompile(`[4-9]`)
	good := 0
	m := &mixer{seed: 45, most: 3}
	list := formulasUpTo(6)
	for n := range 20000 {
		list = append(list, m.formula(1+n%4, n%4 == 0))
	}
	for _, f := range list {
		s := f.text()
		if len(s) > 40 || great.MatchString(s) || !f.closed() || !formulaByText(s) || !impl.FormulaHolds(s) {
			continue
		}
		good++
		if c, ok := impl.CanonOf(s); !ok || !impl.RealizeIs(c, s) {
			t.Errorf("CanonOf returns %q for %q, which does not realize it", c, s)
		}
	}
	if good < 3000 {
		t.Errorf("CanonOf succeeds %d times", good)
	}
}

// Results share no memory.
func TestTestsOfMemory(t *testing.T) {
	const s = "(ex x 3 (or top (eq x 1)))"
	want, _ := impl.TestsOf(s)
	got, _ := impl.TestsOf(s)
	kept := slices.Clone(want)
	_ = append(got, "longer")
	for i := range got {
		got[i] = "changed"
	}
	again, _ := impl.TestsOf(s)
	if !slices.Equal(want, kept) || !slices.Equal(again, kept) {
		t.Errorf("TestsOf returns %q, and then %q", kept, again)
	}
}
