package tests

import (
	"maps"
	"regexp"
	"slices"
	"strconv"
	"strings"
	"testing"

	"loop.example/realizers/impl"
)

// tree is a text with parentheses, split into its parts.
type tree struct {
	text  string
	parts []*tree
}

var (
	lastList = regexp.MustCompile(`\([^() ]+(?: [^() ]+)*\)`)
	listMark = regexp.MustCompile(`^#([0-9]+)#$`)
)

// split puts a mark for each list that has no other one in it. It returns nil
// for a text that is no list of words and lists with just one space between.
func split(text string) *tree {
	if strings.Contains(text, "#") {
		return nil
	}
	var lists []*tree
	part := func(text string) *tree {
		if found := listMark.FindStringSubmatch(text); found != nil {
			i, _ := strconv.Atoi(found[1])
			return lists[i]
		}
		return &tree{text: text}
	}
	text = rewritten(text, lastList, func(found []string) string {
		list := &tree{}
		var texts []string
		for _, word := range strings.Split(strings.Trim(found[0], "()"), " ") {
			list.parts = append(list.parts, part(word))
			texts = append(texts, part(word).text)
		}
		list.text = "(" + strings.Join(texts, " ") + ")"
		lists = append(lists, list)
		return "#" + strconv.Itoa(len(lists)-1) + "#"
	})
	if text == "" || strings.ContainsAny(text, "() ") {
		return nil
	}
	return part(text)
}

// logic returns a formula or an expression.
func (t *tree) logic() *logic {
	if len(t.parts) == 0 {
		return word(t.text)
	}
	head := t.parts[0].text
	if head == "all" || head == "ex" {
		limit, _ := strconv.Atoi(t.parts[2].text)
		return boundOf(head, t.parts[1].text, limit, t.parts[3].logic())
	}
	l := of(head)
	for _, part := range t.parts[1:] {
		l.parts = append(l.parts, part.logic())
	}
	return l
}

// proofForms tell what is behind each word: formulas, expressions, hypotheses,
// names, their numbers, and proof texts.
var proofForms = map[string]string{
	"calc": "E E", "lam": "h A P", "app": "P P", "pair": "P P", "fst": "P", "snd": "P", "inl": "P A", "inr": "A P",
	"case": "P h P h P", "absurd": "P A", "gen": "v n P", "inst": "P E", "wit": "E v n A P", "open": "P v h P",
}

var wordForms = map[string]*regexp.Regexp{
	"h": regexp.MustCompile(`^[a-h][0-9]?[0-9]?$`), "v": regexp.MustCompile(`^[u-z][0-9]?[0-9]?[0-9]?$`), "n": regexp.MustCompile(`^[1-6]$`),
}

func (t *tree) isA(kind string) bool {
	switch kind {
	case "P":
		return t.isProof()
	case "A":
		return formulaByText(t.text)
	case "E":
		return expressionByText(t.text)
	}
	return len(t.parts) == 0 && wordForms[kind].MatchString(t.text)
}

func (t *tree) isProof() bool {
	if len(t.parts) == 0 {
		return t.text == "triv" || t.isA("h")
	}
	form, ok := proofForms[t.parts[0].text]
	kinds := strings.Fields(form)
	if !ok || len(kinds) != len(t.parts)-1 {
		return false
	}
	for i, kind := range kinds {
		if !t.parts[i+1].isA(kind) {
			return false
		}
	}
	return true
}

// proofByText returns a proof text in its parts, or nil if the text is none.
func proofByText(text string) *tree {
	if t := split(text); t != nil && wordsByText(text) <= 120 && t.isProof() {
		return t
	}
	return nil
}

type assumption struct {
	name    string
	formula *logic
}

// place has what there is around a proof text: of equal hypotheses the last one
// counts.
type place struct {
	hypotheses []assumption
	names      numbers
}

func (at place) assume(name string, f *logic) place {
	return place{hypotheses: append(slices.Clone(at.hypotheses), assumption{name: name, formula: f}), names: at.names}
}

func (at place) bind(name string, number int) place {
	return place{hypotheses: at.hypotheses, names: at.names.and(name, number)}
}

func (at place) formulaOf(name string) *logic {
	for _, h := range slices.Backward(at.hypotheses) {
		if h.name == name {
			return h.formula
		}
	}
	return nil
}

// allows reports whether a formula is one, with names that have numbers alone.
func (at place) allows(f *logic) bool {
	return formulaByText(f.text()) && !slices.ContainsFunc(f.free(), func(name string) bool { return at.names[name] == 0 })
}

// mayBind reports whether a name is neither bound around nor free in the formula
// of a hypothesis.
func (at place) mayBind(name string) bool {
	return at.names[name] == 0 && !slices.ContainsFunc(at.hypotheses, func(h assumption) bool { return slices.Contains(h.formula.free(), name) })
}

// always reports whether an equality holds for all values of the names around,
// of which there are at most 300.
func (at place) always(f *logic) bool {
	values := []numbers{nil}
	for name := range at.names {
		var more []numbers
		for _, n := range values {
			for i := range at.names[name] {
				more = append(more, n.and(name, i))
			}
		}
		values = more
		if len(values) > 300 {
			return false
		}
	}
	return !slices.ContainsFunc(values, func(n numbers) bool { return !f.holds(n) })
}

// bindsName reports whether there is an all or ex of a name.
func (l *logic) bindsName(name string) bool {
	return l.name == name || slices.ContainsFunc(l.parts, func(part *logic) bool { return part.bindsName(name) })
}

// instance puts a number or a name for the name of an all or ex, or returns nil.
func (at place) instance(b *logic, by *logic) *logic {
	body := b.parts[0]
	if n, err := strconv.Atoi(by.text()); err == nil && n < b.limit {
		return body.put(b.name, n)
	}
	if by.isName() && at.names[by.word] > 0 && at.names[by.word] <= b.limit && !body.bindsName(b.name) && !body.bindsName(by.word) {
		return body.putInstead(b.name, by)
	}
	return nil
}

// proved follows the rules, and returns nil if they prove nothing.
func (t *tree) proved(at place) *logic {
	f := t.concluded(at)
	if f == nil || !at.allows(f) {
		return nil
	}
	return f
}

func (t *tree) concluded(at place) *logic {
	if t.text == "triv" {
		return word("top")
	}
	if len(t.parts) == 0 {
		return at.formulaOf(t.text)
	}
	// The formula, if there is one, has names with numbers alone.
	for i, kind := range strings.Fields(proofForms[t.parts[0].text]) {
		inside := at
		if t.parts[0].text == "wit" {
			inside = at.bind(t.parts[2].text, 1)
		}
		if kind == "A" && !inside.allows(t.parts[i+1].logic()) {
			return nil
		}
	}
	switch t.parts[0].text {
	case "calc":
		if f := of("eq", t.parts[1].logic(), t.parts[2].logic()); at.allows(f) && at.always(f) {
			return f
		}
	case "gen", "inst", "wit", "open":
		return t.concludedBound(at)
	default:
		return t.concludedJoined(at)
	}
	return nil
}

func sameLogic(f, g *logic) bool { return f != nil && g != nil && f.text() == g.text() }

// hasWord reports whether a formula is there and of a word.
func (l *logic) hasWord(word string) bool { return l != nil && l.word == word }

func (t *tree) concludedJoined(at place) *logic {
	head, p := t.parts[0].text, t.parts[1:]
	switch head {
	case "lam":
		if second := p[2].proved(at.assume(p[0].text, p[1].logic())); second != nil {
			return of("imp", p[1].logic(), second)
		}
	case "app":
		if f := p[0].proved(at); f.hasWord("imp") && sameLogic(f.parts[0], p[1].proved(at)) {
			return f.parts[1]
		}
	case "pair":
		if first, second := p[0].proved(at), p[1].proved(at); first != nil && second != nil {
			return of("and", first, second)
		}
	case "fst", "snd":
		if f := p[0].proved(at); f.hasWord("and") {
			return f.parts[strings.Index("fst snd", head)/4]
		}
	case "inl":
		if first := p[0].proved(at); first != nil {
			return of("or", first, p[1].logic())
		}
	case "inr":
		if second := p[1].proved(at); second != nil {
			return of("or", p[0].logic(), second)
		}
	case "case":
		f := p[0].proved(at)
		if !f.hasWord("or") {
			return nil
		}
		one, two := p[2].proved(at.assume(p[1].text, f.parts[0])), p[4].proved(at.assume(p[3].text, f.parts[1]))
		if sameLogic(one, two) {
			return one
		}
	case "absurd":
		if p[0].proved(at).hasWord("bot") {
			return p[1].logic()
		}
	}
	return nil
}

func (t *tree) concludedBound(at place) *logic {
	p := t.parts[1:]
	switch t.parts[0].text {
	case "gen":
		limit, _ := strconv.Atoi(p[1].text)
		if body := p[2].proved(at.bind(p[0].text, limit)); body != nil && at.mayBind(p[0].text) {
			return boundOf("all", p[0].text, limit, body)
		}
	case "inst":
		if f := p[0].proved(at); f.hasWord("all") {
			return at.instance(f, p[1].logic())
		}
	case "wit":
		limit, _ := strconv.Atoi(p[2].text)
		f := boundOf("ex", p[1].text, limit, p[3].logic())
		if sameLogic(at.instance(f, p[0].logic()), p[4].proved(at)) {
			return f
		}
	case "open":
		f := p[0].proved(at)
		if !f.hasWord("ex") || f.name != p[1].text || !at.mayBind(f.name) {
			return nil
		}
		if g := p[3].proved(at.bind(f.name, f.limit).assume(p[2].text, f.parts[0])); g != nil && !slices.Contains(g.free(), f.name) {
			return g
		}
	}
	return nil
}

// extracted follows the rules of an extract along texts. It returns nothing for
// what is much too large.
func (t *tree) extracted() string {
	if len(t.parts) == 0 && t.text != "triv" {
		return t.text
	}
	head := strings.Trim(strings.SplitN(t.text, " ", 2)[0], "(")
	if slices.Contains([]string{"triv", "calc", "absurd"}, head) {
		return identity
	}
	var p []string
	for i, kind := range strings.Fields(proofForms[head]) {
		text := t.parts[i+1].text
		if kind == "P" {
			text = t.parts[i+1].extracted()
		}
		if n, err := strconv.Atoi(text); kind == "E" && err == nil {
			text = numeralText(n)
		}
		if text == "" || atomsByText(text) > 3200 {
			return ""
		}
		p = append(p, text)
	}
	switch head {
	case "lam":
		return abstractByText(p[0], p[2])
	case "app", "inst":
		return app(p[0], p[1])
	case "pair":
		return pairText(p[0], p[1])
	case "fst":
		return app(firstText, p[0])
	case "snd":
		return app(secondText, p[0])
	case "inl":
		return pairText("k", p[0])
	case "inr":
		return pairText(falseText, p[1])
	case "case":
		return app(app(firstText, p[0]), abstractByText(p[1], p[2]), abstractByText(p[3], p[4]), app(secondText, p[0]))
	case "gen":
		return abstractByText(p[0], p[2])
	case "wit":
		return pairText(p[0], p[4])
	}
	return app(abstractAllByText([]string{p[1], p[2]}, p[3]), app(firstText, p[0]), app(secondText, p[0]))
}

// prover makes proof texts for formulas, as far as it finds them.
type prover struct{ *mixer }

func (m *prover) hypothesis() string {
	return []string{"a", "b", "c", "d1", "h99", "e00"}[m.choice(6)]
}

// someFormula has names with numbers alone.
func (m *prover) someFormula(at place, simple bool) *logic {
	m.names = slices.Sorted(maps.Keys(at.names))
	return m.formula(m.choice(3), simple)
}

// join returns a proof text, or nothing if a part of it was not found.
func join(word string, parts ...string) string {
	if slices.Contains(parts, "") {
		return ""
	}
	return "(" + word + " " + strings.Join(parts, " ") + ")"
}

// aim returns a proof text of a formula, or nothing.
func (m *prover) aim(goal *logic, at place, depth int) string {
	for _, h := range at.hypotheses {
		if sameLogic(goal, at.formulaOf(h.name)) && m.choice(4) > 0 {
			return h.name
		}
	}
	if depth == 0 && len(goal.parts) > 0 && goal.word != "eq" {
		return ""
	}
	text := ""
	if depth > 0 && m.choice(4) == 0 {
		text = m.detour(goal, at, depth-1)
	}
	if text == "" && (len(at.hypotheses) == 0 || m.choice(3) > 0) {
		text = m.build(goal, at, depth-1)
	}
	if text == "" && depth > 0 {
		text = m.use(goal, at, depth-1)
	}
	return text
}

func (m *prover) build(goal *logic, at place, depth int) string {
	part := func(i int) *logic { return goal.parts[i] }
	switch goal.word {
	case "top":
		return "triv"
	case "eq":
		if at.always(goal) {
			return join("calc", part(0).text(), part(1).text())
		}
	case "and":
		return join("pair", m.aim(part(0), at, depth), m.aim(part(1), at, depth))
	case "or":
		if text := m.aim(part(0), at, depth); text != "" && m.choice(2) == 0 {
			return join("inl", text, part(1).text())
		}
		return join("inr", part(0).text(), m.aim(part(1), at, depth))
	case "imp":
		h := m.hypothesis()
		return join("lam", h, part(0).text(), m.aim(part(1), at.assume(h, part(0)), depth))
	case "all":
		if at.mayBind(goal.name) {
			return join("gen", goal.name, strconv.Itoa(goal.limit), m.aim(part(0), at.bind(goal.name, goal.limit), depth))
		}
	case "ex":
		for _, e := range m.instances(goal, at) {
			if text := m.aim(at.instance(goal, e), at, depth); text != "" {
				return join("wit", e.text(), goal.name, strconv.Itoa(goal.limit), part(0).text(), text)
			}
		}
	}
	return ""
}

// instances are the numbers and names that may be put for the name of an all or
// ex, some name first.
func (m *prover) instances(b *logic, at place) []*logic {
	var list []*logic
	for _, name := range slices.Sorted(maps.Keys(at.names)) {
		list = append(list, word(name))
	}
	for n := range b.limit {
		list = append(list, word(strconv.Itoa((n+m.choice(b.limit))%b.limit)))
	}
	return slices.DeleteFunc(list, func(e *logic) bool { return at.instance(b, e) == nil })
}

// use looks for something that a hypothesis is good for.
func (m *prover) use(goal *logic, at place, depth int) string {
	for _, h := range at.hypotheses {
		f, text, g := at.formulaOf(h.name), "", m.hypothesis()
		switch f.word {
		case "bot":
			text = join("absurd", h.name, goal.text())
		case "and":
			i := m.choice(2)
			used := join([]string{"fst", "snd"}[i], h.name)
			if sameLogic(f.parts[i], goal) {
				text = used
			} else if f.parts[i].simple() {
				text = join("app", join("lam", g, f.parts[i].text(), m.aim(goal, at.assume(g, f.parts[i]), depth)), used)
			}
		case "or":
			g2 := m.hypothesis()
			text = join("case", h.name, g, m.aim(goal, at.assume(g, f.parts[0]), depth), g2, m.aim(goal, at.assume(g2, f.parts[1]), depth))
		case "imp":
			if sameLogic(f.parts[1], goal) {
				text = join("app", h.name, m.aim(f.parts[0], at, depth))
			}
		case "all":
			for _, e := range m.instances(f, at) {
				if sameLogic(at.instance(f, e), goal) {
					text = join("inst", h.name, e.text())
				}
			}
		case "ex":
			if at.mayBind(f.name) && !slices.Contains(goal.free(), f.name) {
				text = join("open", h.name, f.name, g, m.aim(goal, at.bind(f.name, f.limit).assume(g, f.parts[0]), depth))
			}
		}
		if text != "" {
			return text
		}
	}
	return ""
}

// detour proves something else first.
func (m *prover) detour(goal *logic, at place, depth int) string {
	kind, h, g := m.choice(7), m.hypothesis(), m.hypothesis()
	other := m.someFormula(at, kind == 2)
	name, limit := []string{"x", "y", "z7", "w"}[m.choice(4)], 1+m.choice(3)
	switch kind {
	case 0:
		return join("fst", join("pair", m.aim(goal, at, depth), m.aim(other, at, depth)))
	case 1:
		return join("snd", join("pair", m.aim(other, at, depth), m.aim(goal, at, depth)))
	case 2:
		return join("app", join("lam", h, other.text(), m.aim(goal, at.assume(h, other), depth)), m.aim(other, at, depth))
	case 3:
		return join("case", join("inl", m.aim(other, at, depth), goal.text()), h, m.aim(goal, at.assume(h, other), depth), g, g)
	case 4:
		return join("case", join("inr", goal.text(), m.aim(other, at, depth)), h, h, g, m.aim(goal, at.assume(g, other), depth))
	case 5:
		if e := m.instances(boundOf("all", name, limit, goal), at); len(e) > 0 && at.mayBind(name) && !slices.Contains(goal.free(), name) {
			return join("inst", join("gen", name, strconv.Itoa(limit), m.aim(goal, at.bind(name, limit), depth)), e[m.choice(len(e))].text())
		}
	case 6:
		some := boundOf("ex", name, limit, m.someFormula(at.bind(name, limit), false))
		if at.mayBind(name) && !slices.Contains(goal.free(), name) {
			return join("open", m.build(some, at, depth), name, h, m.aim(goal, at.bind(name, limit).assume(h, some.parts[0]), depth))
		}
	}
	return ""
}

// mixedProofs returns proof texts that prove closed formulas.
func mixedProofs(count int) []string {
	m := &prover{&mixer{seed: uint32(count), most: 3}}
	var list []string
	for n := 0; len(list) < count; n++ {
		m.names = nil
		text := m.aim(m.formula(1+n%4, n%5 == 0), place{}, 2+n%5)
		if t := proofByText(text); t != nil && t.proved(place{}) != nil {
			list = append(list, text)
		}
	}
	return list
}

// checkProof holds all that the program tells of a text against the rules. It
// returns the formula that the text proves, or nothing.
func checkProof(t *testing.T, s string) string {
	t.Helper()
	tree, size, formula, extract := proofByText(s), -1, "", ""
	if tree != nil {
		size = wordsByText(s)
		if f := tree.proved(place{}); f != nil {
			formula, extract = f.text(), tree.extracted()
		}
	}
	if got := impl.ProofSize(s); got != size {
		t.Errorf("ProofSize returns %d for %q, not %d", got, brief(s), size)
	}
	if got, ok := impl.ProofFormula(s); ok != (formula != "") || got != formula {
		t.Errorf("ProofFormula returns %q for %q, not %q", got, brief(s), formula)
	}
	if !impl.TermValid(extract) {
		extract = ""
	}
	if got, ok := impl.ProofExtract(s); ok != (extract != "") || got != extract {
		t.Errorf("ProofExtract returns %q for %q, not %q", brief(got), brief(s), brief(extract))
	}
	if got := impl.ProofRealizes(s); got != impl.RealizeIs(extract, formula) {
		t.Errorf("ProofRealizes returns %t for %q", got, brief(s))
	}
	normal, _, isNormal := impl.NormalOf(extract)
	if got, ok := impl.ProofRun(s); ok != isNormal || got != normal {
		t.Errorf("ProofRun returns %q for %q, not %q", brief(got), brief(s), brief(normal))
	}
	return formula
}

func TestProofTexts(t *testing.T) {
	one, two := numeralText(1), numeralText(2)
	opened := func(f, p string) string { return app(f, app(firstText, p), app(secondText, p)) }
	for _, c := range []struct{ s, formula, extract string }{
		{"triv", "top", identity}, {"(calc 1 1)", "(eq 1 1)", identity}, {"(calc (add 2 3) 5)", "(eq (add 2 3) 5)", identity}, {"(calc (mul 60 (mul 60 (mul 60 60))) (mul 60 (mul 60 (mul 60 59))))", "(eq (mul 60 (mul 60 (mul 60 60))) (mul 60 (mul 60 (mul 60 59))))", identity},
		{"(lam a top a)", "(imp top top)", identity}, {"(lam h99 (eq 1 2) h99)", "(imp (eq 1 2) (eq 1 2))", identity}, {"(lam b07 top triv)", "(imp top top)", app("k", identity)}, {"(lam a bot (absurd a (eq 1 2)))", "(imp bot (eq 1 2))", app("k", identity)},
		{"(lam a bot (absurd (fst (pair a triv)) (imp top bot)))", "(imp bot (imp top bot))", app("k", identity)}, {"(app (lam a top a) triv)", "top", app(identity, identity)}, {"(lam a top (lam b bot a))", "(imp top (imp bot top))", "k"}, {"(lam a top (lam b bot b))", "(imp top (imp bot bot))", app("k", identity)},
		{"(lam a (and top bot) (snd a))", "(imp (and top bot) bot)", secondText}, {"(lam a (and top bot) (fst a))", "(imp (and top bot) top)", firstText}, {"(pair triv (calc 0 0))", "(and top (eq 0 0))", pairText(identity, identity)}, {"(lam a top (pair a (calc 0 0)))", "(imp top (and top (eq 0 0)))", abstractByText("y", pairText("y", identity))},
		{"(fst (pair triv (calc 0 0)))", "top", app(firstText, pairText(identity, identity))}, {"(snd (pair triv (calc 0 0)))", "(eq 0 0)", app(secondText, pairText(identity, identity))}, {"(inl triv bot)", "(or top bot)", pairText("k", identity)}, {"(inr bot triv)", "(or bot top)", pairText(falseText, identity)},
		{"(lam a top (inl a (imp bot bot)))", "(imp top (or top (imp bot bot)))", abstractByText("y", pairText("k", "y"))}, {"(lam a top (inr (all x 2 bot) a))", "(imp top (or (all x 2 bot) top))", abstractByText("y", pairText(falseText, "y"))},
		{"(lam a (or top bot) (case a b b c (absurd c top)))", "(imp (or top bot) top)", abstractByText("y", app(app(firstText, "y"), identity, app("k", identity), app(secondText, "y")))},
		{"(lam a (or top (eq 1 1)) (case a a (inr (eq 1 1) a) a (inl a top)))", "(imp (or top (eq 1 1)) (or (eq 1 1) top))", abstractByText("y", app(app(firstText, "y"), abstractByText("x", pairText(falseText, "x")), abstractByText("x", pairText("k", "x")), app(secondText, "y")))},
		{"(gen x 2 triv)", "(all x 2 top)", app("k", identity)}, {"(gen y123 6 (calc y123 y123))", "(all y123 6 (eq y123 y123))", app("k", identity)}, {"(gen x 1 (calc x 0))", "(all x 1 (eq x 0))", app("k", identity)}, {"(gen x 3 (gen y 2 (calc (add x y) (add y x))))", "(all x 3 (all y 2 (eq (add x y) (add y x))))", app("k", app("k", identity))},
		{"(inst (gen x 2 (calc x x)) 1)", "(eq 1 1)", app(app("k", identity), one)}, {"(inst (gen x 2 (calc x x)) 0)", "(eq 0 0)", app(app("k", identity), identity)}, {"(gen y 2 (inst (gen x 3 (calc x x)) y))", "(all y 2 (eq y y))", app("k", identity)}, {"(gen y 3 (inst (gen x 3 (wit x z 3 (eq x z) (calc x x))) y))", "(all y 3 (ex z 3 (eq y z)))", abstractByText("x", pairText("x", identity))},
		{"(wit 1 x 2 (eq x 1) (calc 1 1))", "(ex x 2 (eq x 1))", pairText(one, identity)}, {"(wit 0 x 1 top triv)", "(ex x 1 top)", pairText(identity, identity)}, {"(wit 5 x 6 (eq x (add 2 3)) (calc 5 (add 2 3)))", "(ex x 6 (eq x (add 2 3)))", pairText(numeralText(5), identity)}, {"(gen y 2 (wit y x 2 (eq x y) (calc y y)))", "(all y 2 (ex x 2 (eq x y)))", abstractByText("y", pairText("y", identity))},
		{"(gen x 2 (wit x x 2 (eq x x) (calc x x)))", "(all x 2 (ex x 2 (eq x x)))", abstractByText("y", pairText("y", identity))}, {"(gen x 2 (wit 0 x 6 (eq x 0) (calc 0 0)))", "(all x 2 (ex x 6 (eq x 0)))", app("k", pairText(identity, identity))},
		{"(open (wit 1 x 2 top triv) x a triv)", "top", opened(app("k", app("k", identity)), pairText(one, identity))}, {"(open (wit 2 x 3 (eq x 2) (calc 2 2)) x a (wit x y 3 (eq y 2) a))", "(ex y 3 (eq y 2))", opened(abstractAllByText([]string{"x", "y"}, pairText("x", "y")), pairText(two, identity))},
		{"(lam a (ex x 3 (eq x 1)) (open a x b (wit x y 4 (eq y 1) b)))", "(imp (ex x 3 (eq x 1)) (ex y 4 (eq y 1)))", abstractByText("z", opened(abstractAllByText([]string{"x", "y"}, pairText("x", "y")), "z"))}, {"(lam a (ex x 3 (eq x 1)) (open a x a (wit x x 3 (eq x 1) a)))", "(imp (ex x 3 (eq x 1)) (ex x 3 (eq x 1)))", abstractByText("z", opened(abstractAllByText([]string{"x", "y"}, pairText("x", "y")), "z"))},
		// Of equal hypotheses the last one counts.
		{"(lam a top (lam a bot a))", "(imp top (imp bot bot))", app("k", identity)}, {"(lam a top (app (lam a (eq 1 1) (pair a a)) (calc 1 1)))", "(imp top (and (eq 1 1) (eq 1 1)))", app("k", app(abstractByText("x", pairText("x", "x")), identity))}, {"(lam a (eq 1 1) (pair (app (lam a top a) triv) a))", "(imp (eq 1 1) (and top (eq 1 1)))", abstractByText("x", pairText(app(identity, identity), "x"))},
		{"(lam a (or (eq 1 2) top) (case a a triv a a))", "(imp (or (eq 1 2) top) top)", abstractByText("y", app(app(firstText, "y"), app("k", identity), identity, app(secondText, "y")))},
		// Names as they stand, with all their digits.
		{"(gen x 2 (gen x0 2 (gen x00 2 (calc (add x x0) (add x0 x)))))", "(all x 2 (all x0 2 (all x00 2 (eq (add x x0) (add x0 x)))))", app("k", app("k", app("k", identity)))}, {"(lam a top (lam a0 bot (lam a00 (eq 0 1) a)))", "(imp top (imp bot (imp (eq 0 1) top)))", abstractAllByText([]string{"x", "y", "z"}, "x")}, {"(lam a1 top (lam a01 bot a1))", "(imp top (imp bot top))", "k"},
		// What is put in has numbers for names that are not bound alone.
		{"(inst (gen x 2 (wit 1 x 2 (eq x 1) (calc 1 1))) 0)", "(ex x 2 (eq x 1))", app(app("k", pairText(one, identity)), identity)}, {"(inst (gen x 3 (pair (calc x x) (wit 1 x 2 (eq x 1) (calc 1 1)))) 2)", "(and (eq 2 2) (ex x 2 (eq x 1)))", app(app("k", pairText(identity, pairText(one, identity))), two)},
		{"(wit 2 x 3 (and (eq x 2) (all x 2 (eq x x))) (pair (calc 2 2) (gen x 2 (calc x x))))", "(ex x 3 (and (eq x 2) (all x 2 (eq x x))))", pairText(two, pairText(identity, app("k", identity)))},
		// The scopes of a name end, and it may be bound behind them again.
		{"(pair (gen x 2 triv) (gen x 3 (calc x x)))", "(and (all x 2 top) (all x 3 (eq x x)))", pairText(app("k", identity), app("k", identity))}, {"(open (open (wit 0 x 2 top triv) x a (wit 1 x 3 top triv)) x a triv)", "top", ""}, {"(open (inst (gen x 1 (wit 0 x 2 top triv)) 0) x a triv)", "top", ""},
		{"(inst (inst (gen x 2 (gen y 3 (calc (add x y) (add y x)))) 1) 2)", "(eq (add 1 2) (add 2 1))", app(app("k", app("k", identity)), one, two)},
	} {
		if got := checkProof(t, c.s); got != c.formula {
			t.Errorf("%q proves %q by the rules, not %q", c.s, got, c.formula)
		}
		if got, ok := impl.ProofExtract(c.s); !ok || c.extract != "" && got != c.extract {
			t.Errorf("ProofExtract returns %q for %q, not %q", got, c.s, c.extract)
		}
		if !impl.ProofRealizes(c.s) {
			t.Errorf("ProofRealizes does not hold for %q", c.s)
		}
	}
}

// unproved are proof texts of which a rule fails.
func unproved() []string {
	return []string{
		// Hypotheses without formulas, and those whose scope has ended.
		"a", "h", "h99", "e0", "(fst a)", "(pair triv a)", "(lam a top b)", "(lam a top a0)", "(lam a0 top a)", "(lam a1 top a01)", "(app (lam a top a) a)", "(pair (lam a top a) a)", "(case (inl triv top) a b b b)", "(case (inl triv top) a a b a)", "(case (inl triv top) a b b a)", "(case (inl triv top) a triv b a)", "(case a a a a a)",
		"(open (wit 0 x 2 top triv) x a b)", "(open a x a a)", "(pair (open (wit 0 x 2 top triv) x a a) a)", "(inl triv (eq x 1))", "(absurd a top)", "(gen x 2 a)", "(inst a 0)", "(wit 0 x 2 top a)",
		// Values that differ, somewhere.
		"(calc 0 1)", "(calc 1 0)", "(calc (add 2 2) 5)", "(calc (mul 2 3) (add 2 3))", "(gen x 2 (calc x 0))", "(gen x 2 (calc x 1))", "(gen x 6 (calc (mul x x) (add x x)))", "(gen x 2 (gen y 2 (calc x y)))", "(gen x 6 (gen y 6 (calc (mul x (add y 55)) (mul x 60))))", "(calc (mul 60 (mul 60 (mul 60 60))) (mul 60 (mul 60 60)))",
		// Names without numbers.
		"(calc x x)", "(calc 1 x)", "(calc (mul 0 x) 0)", "(gen x 2 (calc y y))", "(gen x 2 (calc x0 x0))", "(gen x0 2 (calc x x))", "(gen x00 2 (calc x0 x0))", "(gen x 2 (calc x (add x (mul y 0))))", "(inl triv (eq x x))", "(inr (eq x x) triv)", "(lam a bot (absurd a (eq x x)))", "(absurd triv (eq x x))", "(wit 0 x 2 (eq y y) (calc y y))", "(wit 0 x 2 (or top (eq y x)) (inl triv (eq y 0)))",
		"(pair (gen x 2 (calc x x)) (calc x x))", "(fst (pair triv (calc x x)))", "(snd (pair (calc x x) triv))", "(app (lam a top triv) (inst (gen x 2 triv) y))", "(open (wit 0 x 2 top (calc x x)) x a triv)", "(case (inl triv (eq x x)) a a b triv)",
		// What is proved is of another kind.
		"(app triv triv)", "(app (pair triv triv) triv)", "(app (gen x 2 triv) triv)", "(app triv (lam a top a))", "(app (lam a top a) (calc 1 1))", "(app (lam a (eq 1 1) a) (calc 1 (add 1 0)))", "(app (lam a (and top (eq 1 1)) a) (pair (calc 1 1) triv))", "(app (lam a (ex x 2 top) triv) (wit 0 y 2 top triv))", "(app (lam a (ex x 2 top) triv) (wit 0 x 3 top triv))",
		"(fst triv)", "(snd triv)", "(fst (inl triv top))", "(snd (inr top triv))", "(fst (lam a top a))", "(snd (wit 0 x 2 top triv))", "(fst (gen x 2 triv))", "(case triv a a b b)", "(case (pair triv triv) a a b b)", "(case (lam a top a) a a b b)", "(case (wit 0 x 2 top triv) a triv b triv)", "(absurd triv top)", "(absurd (calc 0 0) bot)", "(lam a top (absurd a bot))", "(lam a (and bot bot) (absurd a top))", "(lam a (eq 0 1) (absurd a bot))",
		"(inst triv 0)", "(inst (wit 0 x 2 top triv) 0)", "(inst (lam a top a) 0)", "(inst (inst (gen x 2 triv) 0) 0)", "(open triv x a triv)", "(open (gen x 2 triv) x a triv)", "(open (pair triv triv) x a a)",
		// Both sides prove different formulas.
		"(case (inl triv bot) a a b b)", "(case (inl triv (eq 1 1)) a a b b)", "(case (inl triv top) a (calc 0 0) b (calc 1 1))", "(case (inl triv top) a (inl a bot) b (inr bot b))", "(lam a (or top bot) (case a b b c c))",
		// What is not simple ahead of imp.
		"(lam a (imp top top) a)", "(lam a (imp top top) triv)", "(lam a (all x 2 top) a)", "(lam a (and top (imp bot bot)) triv)", "(lam a (or (all x 1 top) top) triv)", "(lam a (ex x 2 (imp top top)) triv)", "(app (lam a (imp top top) (app a triv)) (lam b top b))",
		// Names that are bound already.
		"(gen x 2 (gen x 2 triv))", "(gen x 2 (gen x 3 (calc x x)))", "(gen x 2 (gen y 2 (gen x 1 triv)))", "(gen x 2 (lam a top (gen x 2 triv)))", "(gen x 2 (inst (gen x 2 triv) 0))", "(gen x 2 (open (wit 0 x 2 top triv) x a triv))", "(open (wit 0 x 2 top triv) x a (gen x 2 triv))", "(open (wit 0 x 2 top triv) x a (open (wit 0 x 2 top triv) x a triv))", "(open (wit 0 x 2 top triv) x a (open (wit 0 y 2 top triv) y a (inst (gen x 2 triv) 0)))", "(gen x 2 (open (wit 0 y 2 top (fst (pair triv (gen x 2 triv)))) y a triv))",
		// Numbers that are too great, or no numbers.
		"(inst (gen x 2 triv) 2)", "(inst (gen x 2 triv) 3)", "(inst (gen x 1 triv) 1)", "(inst (gen x 6 triv) 6)", "(inst (gen x 6 triv) 60)", "(inst (gen x 2 triv) (suc 0))", "(inst (gen x 2 triv) (add 0 0))", "(gen y 2 (inst (gen x 2 triv) (add y 0)))", "(gen y 2 (inst (gen x 3 triv) (suc y)))", "(inst (gen x 2 triv) x)", "(inst (gen x 2 triv) y)", "(gen y 3 (inst (gen x 2 triv) y))", "(gen y 6 (inst (gen x 5 triv) y))", "(inst (gen x 3 (inst (gen y 2 triv) x)) 0)",
		"(wit 2 x 2 top triv)", "(wit 1 x 1 top triv)", "(wit 60 x 6 top triv)", "(wit (suc 0) x 2 top triv)", "(wit (add 0 0) x 2 top triv)", "(wit x x 2 top triv)", "(wit y x 2 top triv)", "(gen y 3 (wit y x 2 top triv))", "(gen y 2 (wit (add y 0) x 2 top triv))", "(gen y 6 (wit y x 5 (eq x y) (calc y y)))", "(gen x 3 (wit x x 2 (eq x x) (calc x x)))",
		// Something else than what is put in.
		"(wit 0 x 2 (eq x 1) (calc 1 1))", "(wit 1 x 2 (eq x 1) (calc 0 0))", "(wit 1 x 2 (eq x 1) (calc (add 0 1) 1))", "(wit 1 x 2 (eq x x) triv)", "(wit 0 x 2 (eq 0 0) (calc 1 1))", "(gen y 2 (wit y x 2 (eq x y) (calc 0 0)))", "(gen y 2 (wit y x 2 (eq x x) (calc 1 1)))", "(gen y 2 (wit 1 x 2 (eq x 1) (calc y 1)))", "(wit 1 x 2 (ex x 2 (eq x 1)) (wit 1 x 2 (eq 1 1) (calc 1 1)))",
		// Names that are bound in what they are put in, or that they are put for.
		"(gen y 2 (inst (gen x 2 (wit x y 2 (eq x y) (calc x x))) y))", "(gen y 2 (inst (gen x 2 (wit 0 y 2 top triv)) y))", "(gen y 2 (inst (gen x 2 (pair (calc x x) (wit 0 x 2 top triv))) y))", "(gen y 2 (inst (gen x 2 (wit 0 x 2 (eq x 0) (calc 0 0))) y))", "(gen y 2 (wit y x 2 (ex y 2 (eq y x)) (wit y y 2 (eq y y) (calc y y))))", "(gen y 2 (wit y x 2 (ex y 2 top) (wit 0 y 2 top triv)))", "(gen y 2 (wit y x 2 (and (eq x x) (ex x 2 top)) (pair (calc y y) (wit 0 x 2 top triv))))", "(gen y 2 (wit y x 2 (or top (imp bot (all y 1 top))) (inl triv (imp bot (all y 1 top)))))", "(gen y 2 (wit y x 2 (imp (ex x 1 bot) top) (lam a (ex x 1 bot) triv)))",
		"(gen x 2 (wit x x 2 (ex x 2 top) (wit 0 x 2 top triv)))", "(gen y 2 (inst (gen x 2 (wit 0 z 2 (ex y 2 top) (wit 0 y 2 top triv))) y))", "(gen y 2 (inst (gen x 2 (wit 0 z 2 (ex x 2 top) (wit 0 x 2 top triv))) y))", "(gen y 2 (wit y x 2 (ex z 2 (or top (ex u 1 (ex y 1 bot)))) (wit 0 z 2 (or top (ex u 1 (ex y 1 bot))) (inl triv (ex u 1 (ex y 1 bot))))))", "(gen y 2 (wit y x 2 (imp bot (all z 2 (ex x 1 top))) (lam a bot (absurd a (all z 2 (ex x 1 top))))))",
		// Of open it is another name, or this is free in what is proved.
		"(open (wit 0 x 2 top triv) y a triv)", "(open (wit 0 x 2 top triv) x0 a triv)", "(open (wit 0 x 2 (eq x 0) (calc 0 0)) x a a)", "(open (wit 0 x 2 top triv) x a (calc x x))", "(open (wit 0 x 2 top triv) x a (wit x y 2 (eq y x) (calc x x)))", "(open (wit 0 x 2 top triv) x a (inl triv (eq x x)))", "(open (wit 0 x 3 top triv) x a (inst (gen y 2 triv) x))", "(open (wit 0 x 2 (eq x 0) (calc 0 0)) x a (wit 0 y 2 (eq y 0) a))", "(open (wit 1 x 2 (eq x 1) (calc 1 1)) x a (calc x 1))",
	}
}

func TestProofRulesFail(t *testing.T) {
	for _, s := range unproved() {
		if got := checkProof(t, s); got != "" || impl.ProofSize(s) != wordsByText(s) {
			t.Errorf("%q proves %q by the rules", s, got)
		}
		// Also deep in something else that would be proved.
		for _, around := range []string{"(snd (pair " + s + " triv))", "(lam h0 top " + s + ")", "(gen z99 2 (fst (pair triv " + s + ")))", "(lam g bot (absurd (fst (pair g " + s + ")) top))", "(case (inl triv top) g7 g7 h7 (fst (pair triv " + s + ")))"} {
			if got := checkProof(t, around); got != "" {
				t.Errorf("%q proves %q by the rules", around, got)
			}
		}
	}
}

// In formulas of hypotheses are names with numbers alone.
func TestProofHypotheses(t *testing.T) {
	for s, want := range map[string]string{
		"(gen x 2 (lam a (eq x 1) a))": "(all x 2 (imp (eq x 1) (eq x 1)))", "(lam a (eq x 1) a)": "", "(lam a (eq x 1) triv)": "", "(lam a (eq x x) (calc 0 0))": "", "(lam a (eq x 1) (gen x 2 a))": "", "(lam a (eq x 1) (gen x 2 triv))": "", "(lam a (eq 1 1) (gen x 2 a))": "(imp (eq 1 1) (all x 2 (eq 1 1)))",
		"(gen x 2 (lam a (eq y 1) a))": "", "(gen x 2 (lam a (eq x y) triv))": "", "(gen x 2 (gen y 3 (lam a (eq x y) a)))": "(all x 2 (all y 3 (imp (eq x y) (eq x y))))", "(gen x 2 (lam a (eq x y) (gen y 3 a)))": "", "(gen x 2 (lam a (eq x 1) (gen y 3 a)))": "(all x 2 (imp (eq x 1) (all y 3 (eq x 1))))", "(gen x 2 (lam a (eq x 1) (gen x 3 triv)))": "", "(gen x 2 (lam a (eq x 1) (gen x 2 a)))": "",
		// With digits they are other names.
		"(gen x1 2 (lam a (eq x1 1) a))": "(all x1 2 (imp (eq x1 1) (eq x1 1)))", "(gen x1 2 (lam a (eq x 1) a))": "", "(gen x 2 (lam a (eq x1 1) a))": "", "(gen x1 2 (lam a (eq x01 1) a))": "", "(gen x01 2 (lam a (eq x1 1) triv))": "", "(gen u000 2 (lam a00 (eq u000 0) a00))": "(all u000 2 (imp (eq u000 0) (eq u000 0)))", "(gen u00 2 (lam a00 (eq u000 0) a00))": "",
		"(gen x1 2 (gen x2 3 (lam a (and (eq x1 x2) (eq x2 1)) (fst a))))": "(all x1 2 (all x2 3 (imp (and (eq x1 x2) (eq x2 1)) (eq x1 x2))))", "(gen x1 2 (lam a (eq x1 1) (gen x 2 a)))": "(all x1 2 (imp (eq x1 1) (all x 2 (eq x1 1))))",
		// The scope of a name ends.
		"(pair (gen x 2 triv) (lam a (eq x 1) a))": "", "(pair (gen x 2 (lam a (eq x 1) a)) (lam a (eq x 1) a))": "", "(pair (gen x 2 (lam a (eq x 1) a)) (gen x 3 (lam a (eq x 2) a)))": "(and (all x 2 (imp (eq x 1) (eq x 1))) (all x 3 (imp (eq x 2) (eq x 2))))", "(open (lam a (eq x 1) a) x a triv)": "", "(open (app (lam a (eq x 1) (wit 0 x 2 top triv)) triv) x a triv)": "", "(snd (pair (lam a (eq x 1) a) triv))": "",
		// A name that is bound in the formula itself needs no number.
		"(lam a (ex x 3 (eq x 2)) a)": "(imp (ex x 3 (eq x 2)) (ex x 3 (eq x 2)))", "(lam a (and (ex x 3 (eq x 2)) (eq x 2)) a)": "", "(lam a (ex x 3 (eq x y)) a)": "", "(lam a (ex x 3 (eq x 2)) (gen x 2 a))": "(imp (ex x 3 (eq x 2)) (all x 2 (ex x 3 (eq x 2))))", "(gen x 2 (lam a (ex x 3 (eq x 2)) a))": "(all x 2 (imp (ex x 3 (eq x 2)) (ex x 3 (eq x 2))))", "(gen x 2 (lam a (ex x 3 (eq x 2)) (open a x b triv)))": "", "(gen y 2 (lam a (ex x 3 (eq x y)) (open a x b (wit x z 3 (eq z y) b))))": "(all y 2 (imp (ex x 3 (eq x y)) (ex z 3 (eq z y))))",
		// Within open the name has a number, too.
		"(open (wit 0 x 2 top triv) x a (app (lam b (eq x x) triv) (calc x x)))": "top", "(open (wit 0 x 2 top triv) x a (lam b (eq x x) triv))": "", "(open (wit 0 x 2 (eq x 0) (calc 0 0)) x a (app (lam b (eq x 0) triv) a))": "top", "(open (wit 0 x 2 (eq x 0) (calc 0 0)) x a (gen y 2 (wit 0 z 1 (eq 0 0) (calc 0 0))))": "(all y 2 (ex z 1 (eq 0 0)))", "(open (wit 0 x 2 (eq x 0) (calc 0 0)) x a (gen x 2 triv))": "", "(open (wit 0 x 2 top triv) x a (lam b (eq y y) triv))": "",
		"(lam a (ex x 2 (ex y 2 (eq x y))) (open a x b (open b y c (wit x z 2 (ex w 2 (eq z w)) (wit y w 2 (eq x w) c)))))": "(imp (ex x 2 (ex y 2 (eq x y))) (ex z 2 (ex w 2 (eq z w))))", "(lam a (ex x 2 (ex x 3 (eq x 1))) (open a x b (open b x c triv)))": "",
		// Formulas of hypotheses of case and open have names in them as well.
		"(gen x 2 (lam a (or (eq x 0) (eq x 1)) (case a b (inr (eq x 1) b) c (inl c (eq x 0)))))": "(all x 2 (imp (or (eq x 0) (eq x 1)) (or (eq x 1) (eq x 0))))", "(gen x 2 (case (inl (calc x x) (eq x 1)) b triv c (snd (pair c triv))))": "(all x 2 top)", "(case (gen x 2 (inl (calc x x) bot)) b triv c triv)": "", "(case (inl (gen x 2 (calc x x)) bot) a (gen x 2 (inst a x)) b (absurd b (all x 2 (eq x x))))": "(all x 2 (eq x x))", "(case (inl (gen x 2 (calc x x)) bot) a (gen y 2 (inst a y)) b (absurd b (all y 2 (eq y y))))": "(all y 2 (eq y y))",
		// Names that are put change formulas of hypotheses that are proved from.
		"(inst (gen x 3 (lam a (eq x 1) a)) 2)": "(imp (eq 2 1) (eq 2 1))", "(gen y 3 (inst (gen x 3 (lam a (eq x 1) a)) y))": "(all y 3 (imp (eq y 1) (eq y 1)))", "(gen y 3 (lam b (eq y 1) (app (inst (gen x 3 (lam a (eq x 1) a)) y) b)))": "(all y 3 (imp (eq y 1) (eq y 1)))", "(gen y 3 (lam b (eq y 1) (app (inst (gen x 3 (lam a (eq x 1) a)) 2) b)))": "", "(gen y 3 (lam b (eq y 1) (inst (gen x 3 b) y)))": "(all y 3 (imp (eq y 1) (eq y 1)))", "(lam a (eq y 1) (inst (gen x 3 a) 0))": "",
		"(gen x1 2 (lam a (eq x1 0) (wit x1 x2 2 (eq x2 0) a)))": "(all x1 2 (imp (eq x1 0) (ex x2 2 (eq x2 0))))", "(gen x1 2 (lam a (eq x1 0) (wit x1 x2 2 (eq x1 0) a)))": "(all x1 2 (imp (eq x1 0) (ex x2 2 (eq x1 0))))", "(gen x1 2 (lam a (eq x1 0) (wit 0 x2 2 (eq x2 0) a)))": "",
	} {
		if got := checkProof(t, s); got != want {
			t.Errorf("%q proves %q by the rules, not %q", s, got, want)
		}
	}
}

// sndOf proves what a proof text of three atoms fewer does.
func sndOf(count int, p string) string {
	return strings.Repeat("(snd (pair triv ", count) + p + strings.Repeat("))", count)
}

// fstOf is a proof text of so many more atoms.
func fstOf(count int, p string) string {
	return strings.Repeat("(fst ", count) + p + strings.Repeat(")", count)
}

// withFormula are proof texts with a formula in each place where one may be.
func withFormula(a string) []string {
	return []string{"(lam a " + a + " triv)", "(lam a bot (absurd a " + a + "))", "(inl triv " + a + ")", "(inr " + a + " triv)", "(wit 0 x 2 " + a + " triv)", "(pair triv (inl triv " + a + "))"}
}

// withExpression are those with an expression.
func withExpression(e string) []string {
	return []string{"(calc 0 " + e + ")", "(calc " + e + " 0)", "(inst (gen x 2 triv) " + e + ")", "(wit " + e + " x 2 top triv)"}
}

// noProofs are no proof texts, but for those that are too large.
func noProofs() []string {
	list := []string{
		"", " ", "(", ")", "()", "( )", "(triv)", "(a)", "((a))", "triv ", " triv", "triv\n", "triv triv", "(triv triv)", "Triv", "tri", "trivv", "t", "top", "bot", "0", "1", "x", "u", "z9", "k", "s", "i", "j", "ab", "aa", "A", "H", "a000", "h123", "a1b", "a-1", "a 1", "a+", "a.", "1a", "i1", "a\x00", "\xff", "a\xff", "a\xd9\xa1", "\xc3\xa4",
		"hypothesis", "(hypothesis a)", "(hypothesis)", "lam", "calc", "open", "(lam)", "(calc)", "(fst)", "(fst )", "fst triv", "(fst triv", "fst triv)", "(fst triv))", "(fst  triv)", "( fst triv)", "(fst triv )", "(fst (triv))", "(fst triv triv)", "(fst(fst triv))", "(Fst triv)", "(first triv)", "(FST triv)", "(fst\ttriv)", "(fst,triv)", "[fst triv]", "(fst 1)", "(fst top)", "(fst x)", "(fst (top))", "(snd)", "(snd triv triv)", "(second triv)", "(triv fst)", "(a b)", "(a triv)",
		"(calc 1)", "(calc 1 1 1)", "(calc 1 1", "(calc  1 1)", "(calc 1  1)", "(calc 1 1 )", "(calc a a)", "(calc triv 1)", "(calc 1 triv)", "(calc top top)", "(calc (eq 1 1) 1)", "(calc 01 1)", "(calc 1 61)", "(calc -1 1)", "(calc (suc) 1)", "(calc (1) 1)", "(calc 1 (add 1))", "(calc x0000 1)", "(calc(suc 0) 1)", "(calc (suc 0)1)",
		"(lam a top)", "(lam a triv)", "(lam top a triv)", "(lam a top a a)", "(lam x top triv)", "(lam i top triv)", "(lam a000 top triv)", "(lam ab top triv)", "(lam (a) top triv)", "(lam  top triv)", "(lam a  triv)", "(lam a top )", "(lam a triv triv)", "(lam a (top) triv)", "(lam a a triv)", "(lam a x triv)", "(lam a (eq 1) triv)", "(lam a (imp (imp top top) top) triv)", "(lam a (all x 7 top) triv)", "(lam a top top)", "(lam top triv a)", "(lam1 a top triv)", "(lam a top(fst triv))", "(lam a(eq 1 1) triv)",
		"(app triv)", "(app triv triv triv)", "(app)", "(apply triv triv)", "(app triv top)", "(app 1 triv)", "(app triv", "(app triv triv) ", "(pair triv)", "(pair)", "(pair triv triv triv)", "(pair  triv)", "(pair triv triv", "(pair triv, triv)", "(pairs triv triv)", "(and triv triv)", "(inl triv)", "(inl top triv)", "(inl triv triv)", "(inl triv top top)", "(inl top top)", "(inr triv)", "(inr triv top)", "(inr triv triv)", "(inr top triv triv)",
		"(case triv a triv b)", "(case triv a triv b triv triv)", "(case triv a triv)", "(case triv triv a triv b)", "(case triv a triv triv b)", "(case triv x triv y triv)", "(case triv a triv i triv)", "(case triv i triv a triv)", "(case triv a triv b top)", "(case triv a top b triv)", "(case top a triv b triv)", "(case a top triv b bot triv)", "(case)",
		"(absurd triv)", "(absurd top triv)", "(absurd triv triv)", "(absurd a)", "(absurd a top top)", "(gen x triv)", "(gen x 2)", "(gen 2 x triv)", "(gen x 0 triv)", "(gen x 7 triv)", "(gen x 10 triv)", "(gen x -1 triv)", "(gen x 02 triv)", "(gen x y triv)", "(gen x (suc 1) triv)", "(gen a 2 triv)", "(gen k 2 triv)", "(gen xx 2 triv)", "(gen x0000 2 triv)", "(gen (x) 2 triv)", "(gen x (2) triv)", "(gen x 2 top)", "(gen x 2 triv triv)", "(gen  2 triv)", "(gen x  triv)", "(gen x 99999999999999999999 triv)", "(all x 2 triv)",
		"(inst triv)", "(inst triv a)", "(inst 0 triv)", "(inst triv triv)", "(inst triv 0 0)", "(inst triv 61)", "(inst triv 00)", "(inst triv top)", "(inst (gen x 2 triv) -1)", "(inst triv (0))", "(wit 0 x 2 top)", "(wit x 2 top triv)", "(wit 0 x top triv)", "(wit 0 x 2 triv)", "(wit 0 x 2 triv top)", "(wit 0 x 0 top triv)", "(wit 0 x 7 top triv)", "(wit a x 2 top triv)", "(wit 0 a 2 top triv)", "(wit 0 1 2 top triv)", "(wit 0 x 2 top triv triv)", "(wit 61 x 2 top triv)", "(wit 0 x 2 0 triv)", "(wit 0 x x top triv)", "(wit triv x 2 top triv)", "(ex x 2 top triv)",
		"(open triv x a)", "(open triv a x triv)", "(open triv x triv)", "(open triv x a triv triv)", "(open x triv a triv)", "(open triv 2 a triv)", "(open triv x x triv)", "(open triv a a triv)", "(open triv x 2 a triv)", "(open top x a triv)", "(open triv x a top)", "(open triv  a triv)", "(open triv x  triv)", "(open)", "(openx triv x a triv)", "#0#", "(fst #0#)", "(fst (fst triv)#0#)",
	}
	for _, a := range slices.Concat(noFormulas()[:40], []string{andOf(31), exOf("all", "5444", "top"), exOf("ex", "6633", "top"), "(imp (imp top top) top)", "(eq " + sucOf(58, "1") + " 1)", identity}) {
		list = append(list, withFormula(a)...)
	}
	for _, e := range slices.Concat(noExpressions()[:40], []string{sucOf(60, "1"), "(add " + sucOf(29, "1") + " " + sucOf(29, "1") + ")", identity}) {
		list = append(list, withExpression(e)...)
	}
	return list
}

// largeNoProofs are no proof texts as they have too many atoms, or would take more room than there is.
func largeNoProofs() []string {
	return []string{
		fstOf(120, "triv"), fstOf(120, "a"), fstOf(119, "(fst triv)"), sndOf(40, "triv"), sndOf(39, "(pair triv (fst triv))"), "(pair " + fstOf(59, "triv") + " " + fstOf(59, "triv") + ")", sndOf(39, "(calc 0 (suc 0))"), fstOf(117, "(lam a top a)"), fstOf(116, "(gen x 2 (fst triv))"), fstOf(61, "(lam a "+andOf(29)+" triv)"), fstOf(60, "(calc "+sucOf(58, "1")+" 1)"), "(calc " + sucOf(59, "1") + " " + sucOf(59, "1") + ")", "(pair (lam a " + andOf(30) + " a) (lam a " + andOf(29) + " a))",
		"(inl " + fstOf(60, "triv") + " " + andOf(30) + ")", "(absurd " + fstOf(60, "a") + " " + andOf(30) + ")", "(inst " + fstOf(59, "a") + " " + sucOf(59, "1") + ")", fstOf(60, "(lam b top (inl b "+andOf(29)+"))"), fstOf(119, "(lam a top"), fstOf(119, "(gen x"), fstOf(119, "(calc 1"), fstOf(118, "(calc 1"), strings.Repeat("(fst ", 10000000), strings.Repeat("(", 20000000), strings.Repeat("(pair triv ", 3000000), strings.Repeat(")", 1000000), strings.Repeat("a", 1000000), "a" + strings.Repeat("0", 1000000), strings.Repeat("triv", 1000000), strings.Repeat("(lam a top ", 3000000), "(lam a " + strings.Repeat("(and top ", 3000000), "(calc " + strings.Repeat("(suc ", 5000000), "(gen x " + strings.Repeat("2", 1000000) + " triv)", fstOf(1000, "triv"), fstOf(1000000, "triv"),
	}
}

func checkNoProof(t *testing.T, s string) {
	t.Helper()
	if got := impl.ProofSize(s); got != -1 {
		t.Errorf("ProofSize returns %d for %q", got, brief(s))
	}
	if got, ok := impl.ProofFormula(s); ok || got != "" {
		t.Errorf("ProofFormula returns %q for %q", got, brief(s))
	}
	if got, ok := impl.ProofExtract(s); ok || got != "" {
		t.Errorf("ProofExtract returns %q for %q", got, brief(s))
	}
	if got, ok := impl.ProofRun(s); ok || got != "" || impl.ProofRealizes(s) {
		t.Errorf("ProofRun returns %q for %q", got, brief(s))
	}
	for _, both := range [][2]string{{s, "triv"}, {"triv", s}, {s, s}} {
		if got, ok := impl.ProofJoin(both[0], both[1]); ok || got != "" {
			t.Errorf("ProofJoin returns %q for %q and %q", got, brief(both[0]), brief(both[1]))
		}
	}
}

func TestNoProofs(t *testing.T) {
	for _, s := range noProofs() {
		if proofByText(s) != nil {
			t.Errorf("a proof text is %q by the rules", s)
		}
		checkNoProof(t, s)
	}
	for _, s := range slices.Concat(largeNoProofs(), largeNoFormulas(), noTerms()) {
		if s != "a" {
			checkNoProof(t, s)
		}
	}
}

// Promise 54.
func TestProofSize(t *testing.T) {
	for s, want := range map[string]int{
		"triv": 1, "a": 1, "h99": 1, "(fst triv)": 2, "(snd b0)": 2, "(calc 0 1)": 3, "(calc (add 1 x) 60)": 5, "(lam a top a)": 4, "(lam a (eq 1 x) a)": 6, "(app a b)": 3, "(pair a (pair b c))": 5, "(inl a (and top bot))": 5, "(inr top a)": 3, "(case a b c d e)": 6, "(absurd a (all x 2 (eq x x)))": 8, "(gen x 2 triv)": 4, "(inst a (suc (suc 1)))": 5, "(wit (suc x) u 3 (eq u u) triv)": 9, "(open a x b c)": 5,
		fstOf(119, "triv"): 120, fstOf(118, "triv"): 119, sndOf(39, "(calc 0 0)"): 120, sndOf(39, "(fst (fst a))"): 120, sndOf(39, "triv"): 118, "(pair " + fstOf(59, "triv") + " " + fstOf(58, "triv") + ")": 120, fstOf(116, "(lam a top a)"): 120, fstOf(116, "(gen x 2 triv)"): 120, fstOf(118, "(fst triv)"): 120,
		// Formulas and expressions have limits of their own.
		"(lam a " + andOf(30) + " a)": 62, "(lam a " + andOf(30) + " (lam b " + andOf(28) + " (fst a)))": 120, fstOf(60, "(lam a "+andOf(29)+" triv)"): 120, "(inl " + fstOf(59, "triv") + " " + andOf(30) + ")": 120, "(absurd " + fstOf(59, "a") + " " + andOf(30) + ")": 120, "(inst " + fstOf(58, "a") + " " + sucOf(59, "1") + ")": 120, "(calc " + sucOf(58, "1") + " " + sucOf(59, "1") + ")": 120, fstOf(59, "(calc "+sucOf(58, "1")+" 1)"): 120, "(calc " + sucOf(59, "1") + " " + sucOf(58, "1") + ")": 120, "(calc " + sucOf(59, "x") + " 1)": 62, "(inst triv " + sucOf(59, "1") + ")": 62, "(lam a " + exOf("all", "6552", "top") + " a)": 16, "(absurd a " + exOf("all", "6552", exOf("ex", "1", "top")) + ")": 18, "(wit " + sucOf(57, "1") + " x 2 " + andOf(29) + " a)": 119,
		"(wit " + sucOf(58, "1") + " x 2 " + andOf(29) + " a)": 120, "(gen x 6 (gen x 6 (gen x 6 (gen x 6 triv))))": 13,
	} {
		if got := impl.ProofSize(s); got != want || wordsByText(s) != want || proofByText(s) == nil {
			t.Errorf("ProofSize returns %d for %q, not %d", got, s, want)
		}
		checkProof(t, s)
	}
	for _, s := range slices.Concat(unproved(), mixedProofs(500)) {
		size := impl.ProofSize(s)
		want := size + 1
		if want == 121 {
			want = -1
		}
		if got := impl.ProofSize("(fst " + s + ")"); size < 1 || size > 120 || got != want {
			t.Errorf("ProofSize returns %d for %q, and %d for fst of it", size, s, got)
		}
	}
}

// What is proved is a formula only within the limits of these.
func TestProofLimits(t *testing.T) {
	fiftyEight := "(and (eq 1 (suc 0)) " + andOf(27) + ")"
	gens := func(limits, body string) string { return strings.ReplaceAll(exOf("gen", limits, body), "all", "gen") }
	for s, proves := range map[string]bool{
		sndOf(39, "(calc 0 0)"): true, sndOf(40, "triv"): false, sndOf(39, "(fst (pair triv triv))"): false, sndOf(38, "(fst (pair triv triv))"): true,
		// Formulas of 60 atoms, and of more.
		"(lam a " + andOf(29) + " triv)": true, "(lam a " + andOf(30) + " triv)": false, "(lam a bot (absurd a " + andOf(29) + "))": true, "(lam a bot (absurd a " + andOf(30) + "))": false, "(lam a bot (absurd a " + fiftyEight + "))": true, "(lam a " + fiftyEight + " triv)": true, "(inl triv " + fiftyEight + ")": true, "(inr " + fiftyEight + " triv)": true, "(inl triv " + andOf(29) + ")": true, "(inl triv " + andOf(30) + ")": false, "(inr " + andOf(29) + " triv)": true, "(inr " + andOf(30) + " triv)": false,
		"(calc " + sucOf(57, "1") + " 58)": true, "(calc " + sucOf(58, "1") + " 59)": false, "(calc 58 " + sucOf(57, "1") + ")": true, "(calc 59 " + sucOf(58, "1") + ")": false, "(calc " + sucOf(29, "1") + " " + sucOf(28, "2") + ")": true, "(calc " + sucOf(29, "1") + " " + sucOf(29, "1") + ")": false, "(lam a " + andOf(14) + " (pair a a))": false, "(lam a " + andOf(10) + " (pair a a))": true, "(lam a " + andOf(10) + " (lam b top (pair a a)))": false, "(lam a " + andOf(10) + " (fst (pair a (pair a a))))": true, "(lam a " + andOf(11) + " (fst (pair a (pair a a))))": false,
		"(lam a bot (absurd a (ex x 2 " + andOf(28) + ")))": true, "(lam a bot (absurd a (ex x 2 " + andOf(29) + ")))": false, "(lam a " + andOf(28) + " (gen x 2 triv))": true, "(lam a " + andOf(28) + " (fst (pair triv (gen x 2 a))))": true, "(lam a " + andOf(29) + " (fst (pair triv (gen x 2 a))))": false, "(lam a " + andOf(28) + " (fst (pair triv (wit 0 x 2 " + andOf(28) + " a))))": true, "(lam a " + andOf(29) + " (fst (pair triv (wit 0 x 2 " + andOf(29) + " a))))": false, "(wit 0 x 2 (or top " + andOf(28) + ") (inl triv " + andOf(28) + "))": true, "(wit 0 x 2 (or top (and (eq 1 (suc 0)) " + andOf(26) + ")) (inl triv (and (eq 1 (suc 0)) " + andOf(26) + ")))": false,
		// Numbers that multiply to 300, and to more.
		gens("6552", "triv"): true, gens("65522", "triv"): false, gens("6662", "triv"): false, gens("5444", "triv"): false, gens("22222222", "triv"): true, gens("222222222", "triv"): false, gens("6", "(lam a "+exOf("ex", "552", "top")+" triv)"): true, gens("6", "(lam a "+exOf("ex", "553", "top")+" triv)"): false, gens("2", "(wit 0 x9 6 "+exOf("all", "55", "top")+" "+strings.ReplaceAll(gens("55", "triv"), "x", "y")+")"): false, gens("2", "(wit 0 x9 6 "+exOf("all", "55", "top")+" "+"(gen x0 5 (gen x1 5 triv)))"): false, "(gen y 2 (wit 0 x9 6 " + exOf("all", "55", "top") + " (gen x0 5 (gen x1 5 triv))))": true, "(gen y 2 (wit 0 x9 6 " + exOf("all", "56", "top") + " (gen x0 5 (gen x1 6 triv))))": false,
		// So do those of what is only proved on the way.
		"(snd (pair " + gens("6552", "triv") + " triv))": true, "(snd (pair " + gens("6662", "triv") + " triv))": false, "(inst (gen y 2 " + gens("5444", "triv") + ") 0)": false, "(inst (gen y 2 " + gens("255", "triv") + ") 0)": true, "(inst (gen y 6 " + gens("255", "triv") + ") 0)": true, "(inst (gen y 6 " + gens("355", "triv") + ") 0)": false,
	} {
		if got := checkProof(t, s); (got != "") != proves {
			t.Errorf("%q proves %q by the rules", s, got)
		}
	}
}

// Around calc there are names with at most 300 values, whether or not they are in its expressions.
func TestProofValues(t *testing.T) {
	within := func(limits, calc string) string {
		text := calc
		for i, digit := range slices.Backward([]byte(limits)) {
			text = "(inst (gen x" + strconv.Itoa(i) + " " + string(digit) + " " + text + ") 0)"
		}
		return text
	}
	opened := func(limits, calc string) string {
		text := calc
		for i, digit := range slices.Backward([]byte(limits)) {
			name := "x" + strconv.Itoa(i)
			text = "(open (wit 0 " + name + " " + string(digit) + " top triv) " + name + " a " + text + ")"
		}
		return text
	}
	sum := func(names ...string) string {
		text := names[0]
		for _, name := range names[1:] {
			text = "(add " + text + " " + name + ")"
		}
		return text
	}
	all := "(calc " + sum("x0", "x1", "x2", "x3") + " " + sum("x3", "x2", "x1", "x0") + ")"
	for s, proves := range map[string]bool{
		within("6552", all): true, within("5562", all): true, within("5543", all): true, within("6661", all): true, within("6651", all): true, within("6663", all): false, within("6662", all): false, within("6633", all): false, within("5454", all): false, within("4454", all): false, within("6666", all): false, within("5552", all): true, within("5553", all): false, within("5552", "(calc x0 (add x0 (mul x3 0)))"): true,
		within("6652", "(calc 0 0)"): false, within("6552", "(calc 0 0)"): true, within("6552", "(calc 0 1)"): false, within("6662", "(calc 0 0)"): false, within("6661", "(calc 0 0)"): true, within("6662", "(calc x3 x3)"): false, within("6661", "(calc x0 x0)"): true, within("2666", "(calc 1 1)"): false, within("11666111", "(calc 1 1)"): true, within("11666112", "(calc 1 1)"): false, within("21666111", "(calc 1 1)"): false, within("65521111", "(calc x7 0)"): true, within("65521112", "(calc 7 7)"): false,
		within("6666", "(calc x3 x3)"): false, within("666", "(calc "+sum("x0", "x1", "x2")+" "+sum("x2", "x1", "x0")+")"): true, within("6662", "(calc "+sum("x0", "x1", "x2")+" "+sum("x2", "x1", "x0")+")"): false, within("666661", "(calc (mul x0 x5) (mul x5 x0))"): false, within("661111", "(calc (mul x0 x5) (mul x5 x0))"): true, within("6552", "(calc "+sum("x0", "x1", "x2")+" "+sum("x2", "x1", "x3")+")"): false, within("66", "(calc "+sum("x0", "x1")+" "+sum("x1", "x1")+")"): false,
		// More values than there are numbers of the program.
		within(strings.Repeat("6", 22), "(calc 0 0)"): false, within(strings.Repeat("4", 23), "(calc 0 0)"): false, within(strings.Repeat("2", 8), "(calc 0 0)"): true, within(strings.Repeat("2", 9), "(calc 0 0)"): false, within(strings.Repeat("1", 23), "(calc 0 0)"): true, exOf("gen", strings.Repeat("4", 32), "(calc 0 0)"): false, within("6662", "triv"): true,
		// Names that open binds count, too; those of other parts, of wit and of formulas do not.
		opened("666", "(calc 0 0)"): true, opened("6662", "(calc 0 0)"): false, opened("6661", "(calc 0 0)"): true, opened("5562", "(calc 0 0)"): true, opened("5562", "(calc 0 1)"): false, opened("4454", "(calc x0 x0)"): false, "(gen y 6 " + opened("552", "(calc y y)") + ")": true, "(gen y 6 " + opened("652", "(calc y y)") + ")": false, "(gen y 6 " + opened("666", "(calc y y)") + ")": false,
		"(pair " + within("666", "(calc 0 0)") + " " + within("662", "(calc 1 1)") + ")": true, within("666", "(wit 0 y 6 (eq 0 0) (calc 0 0))"): true, within("6662", "(wit 0 y 1 (eq 0 0) (calc 0 0))"): false, "(fst (pair (calc 0 0) " + within("6666", "triv") + "))": true, within("666", "(snd (pair (lam a "+exOf("ex", "666", "top")+" a) (calc 0 0)))"): true, "(inst (gen y 6 (snd (pair (lam a " + exOf("ex", "552", "top") + " a) (calc 0 0)))) 0)": true, within("666", "(fst (pair (calc 0 0) (inst (gen y 6 triv) 0)))"): true, within("666", "(fst (pair triv (inst (gen y 6 (calc 0 0)) 0)))"): false, within("66", "(app (lam a (eq 0 0) (inst (gen y 6 (inst (gen z 6 a) 0)) 0)) (calc 0 0))"): true, within("66", "(app (lam a (eq 0 0) (inst (gen y 6 (inst (gen z 6 (calc 0 0)) 0)) 0)) (calc 0 0))"): false,
		// Only the greatest numbers make a difference.
		"(gen x 6 (calc (mul x (mul (mul 20 50) 40)) (mul x (mul (mul 20 50) 40))))": true, "(gen x 6 (gen y 6 (calc (mul x y) (mul y x))))": true, "(gen x 5 (wit x y 5 (eq (mul x y) (mul x x)) (calc (mul x x) (mul x x))))": true, "(gen x 5 (calc (mul x (add x 55)) (mul x 59)))": false, "(gen x 6 (calc (mul (mul 58 58) (mul (mul x 58) 58)) (mul (mul 58 58) (mul x (mul 58 58)))))": true, "(gen x 2 (calc (add (mul x 60) (mul (mul 60 60) (mul 60 60))) (mul (mul 60 60) (mul 60 60))))": true, "(gen x 2 (calc (add (mul x 60) (mul (mul 60 60) 60)) (mul (mul 60 60) 60)))": false,
	} {
		if got := checkProof(t, s); (got != "") != proves {
			t.Errorf("%q proves %q by the rules", s, got)
		}
	}
}

// smallProofs are short proof texts that prove something.
func smallProofs(count, most int) []string {
	var list []string
	for _, s := range mixedProofs(20 * count) {
		if len(s) <= most && len(s) > 8 && len(list) < count {
			list = append(list, s)
		}
	}
	return list
}

// Texts that are changed a bit are proof texts, or not, by splitting them.
func TestProofChanged(t *testing.T) {
	valid, invalid, proved := 0, 0, 0
	for _, s := range append(smallProofs(40, 60), "(lam a (ex x 3 (eq x 1)) (open a x b (wit x y 4 (eq y 1) b)))", "(gen x 2 (inst (gen y1 3 (calc y1 y1)) x))", "(lam a (or top bot) (case a b1 b1 c (absurd c top)))") {
		for i := range s {
			for _, c := range []string{"", " ", "(", ")", "a", "x", "0", "2", "7", "triv", "top"} {
				for _, changed := range []string{s[:i] + c + s[i:], s[:i] + c + s[i+1:]} {
					switch formula := checkProof(t, changed); {
					case formula != "":
						proved++
					case proofByText(changed) != nil:
						valid++
					default:
						invalid++
					}
				}
			}
		}
		if t.Failed() {
			return
		}
	}
	if valid < 1000 || invalid < 5000 || proved < 1000 {
		t.Errorf("%d texts prove something, %d are proof texts, and %d are none", proved, valid, invalid)
	}
}

// changedProofs are proof texts with another part of the same kind in the place
// of one of them.
func changedProofs(s string, m *mixer) []string {
	var list []string
	for _, word := range regexp.MustCompile(`[^() ]+`).FindAllStringIndex(s, -1) {
		others := []string{"a", "b", "d1", "e00", "x", "y", "z7", "w", "0", "1", "2", "3", "6", "triv", "top", "bot", "fst", "snd", "and", "or", "all", "ex", "gen"}
		for range 6 {
			list = append(list, s[:word[0]]+others[m.choice(len(others))]+s[word[1]:])
		}
	}
	// Some other list of the text.
	lists := regexp.MustCompile(`\([a-z]+ [^()]*(?:\([^()]*\)[^()]*)*\)`).FindAllStringIndex(s, -1)
	for _, one := range lists {
		for _, other := range lists {
			list = append(list, s[:one[0]]+s[other[0]:other[1]]+s[one[1]:])
		}
		list = append(list, s[:one[0]]+"triv"+s[one[1]:], s[:one[0]]+"a"+s[one[1]:], s[:one[0]]+"(fst "+s[one[0]:one[1]]+")"+s[one[1]:], s[:one[0]]+"(absurd "+s[one[0]:one[1]]+" bot)"+s[one[1]:], s[:one[0]]+"(gen x 2 "+s[one[0]:one[1]]+")"+s[one[1]:])
	}
	return list
}

// The rules that fail are those that fail by the rules of the document.
func TestProofRules(t *testing.T) {
	m := &mixer{seed: 51}
	proved, not := map[string]int{}, map[string]int{}
	for _, s := range mixedProofs(600) {
		if len(s) > 250 {
			continue
		}
		for _, changed := range changedProofs(s, m) {
			if proofByText(changed) == nil {
				continue
			}
			count := not
			if checkProof(t, changed) != "" {
				count = proved
			}
			for word := range proofForms {
				if strings.Contains(changed, "("+word+" ") {
					count[word]++
				}
			}
		}
		if t.Failed() {
			return
		}
	}
	for word := range proofForms {
		if proved[word] < 100 || not[word] < 100 {
			t.Errorf("of the texts with %s %d prove something, and %d do not", word, proved[word], not[word])
		}
	}
}

// Promises 51 to 53, 55 and 57.
func TestProofs(t *testing.T) {
	great := regexp.MustCompile(`[4-9]`)
	small, tested, again := 0, 0, 0
	for _, s := range mixedProofs(4000) {
		f := checkProof(t, s)
		if !impl.FormulaClosed(f) || !impl.FormulaHolds(f) || impl.ProofSize(s) < 1 {
			t.Errorf("%q proves %q, which is no closed formula that holds", s, f)
		}
		extract, ok := impl.ProofExtract(s)
		if ok && (!impl.TermClosed(extract) || impl.ProofRealizes(s) != impl.RealizeIs(extract, f)) {
			t.Errorf("ProofExtract returns %q for %q", extract, s)
		}
		if len(s) <= 120 && len(f) <= 40 && !great.MatchString(s+f) {
			small++
			if !ok || !impl.ProofRealizes(s) {
				t.Errorf("ProofRealizes does not hold for %q", s)
			}
		}
		tests, simple := impl.TestsOf(f)
		normal, ok := impl.ProofRun(s)
		if ok && (!impl.TermNormal(normal) || simple && !slices.Contains(tests, normal)) {
			t.Errorf("ProofRun returns %q for %q, which proves %q", normal, s, f)
		}
		if !simple {
			continue
		}
		tested++
		detour := "(app (lam a " + f + " a) " + s + ")"
		if impl.ProofSize(detour) < 0 {
			continue
		}
		want := f
		// What lam proves has to be a formula.
		if 2*wordsByText(f) >= 60 {
			want = ""
		}
		if got := checkProof(t, detour); got != want {
			t.Errorf("%q proves %q, not %q", detour, got, want)
		}
		if want == "" {
			continue
		}
		again++
		if other, ok := impl.ProofExtract(detour); ok && !sameNormal(extract, other) {
			t.Errorf("ProofExtract returns %q for %q, and %q for %q", extract, s, other, detour)
		}
	}
	if small < 1500 || tested < 1500 || again < 1500 {
		t.Errorf("%d proofs are small, %d prove simple formulas, and %d of these do so again", small, tested, again)
	}
}

// largeExtract is a proof text with an extract of 2997 atoms, and 1 more for
// each lam.
func largeExtract(lams int) string {
	opens := strings.Repeat("(open ", 6) + "(wit 0 x 1 top triv)" + strings.Repeat(" x a (wit 0 x 1 top triv))", 6)
	return strings.Repeat("(lam b top ", lams) + strings.Repeat("(inr bot ", 6) + sndOf(11, opens) + strings.Repeat(")", 6+lams)
}

// Only the whole has to be a term.
func TestProofExtractLimits(t *testing.T) {
	for lams := range 6 {
		s := largeExtract(lams)
		if checkProof(t, s) == "" || atomsByText(proofByText(s).extracted()) != 2997+lams {
			t.Fatalf("the extract of %q has %d atoms by the rules", s, atomsByText(proofByText(s).extracted()))
		}
		if got, ok := impl.ProofExtract(s); ok != (lams <= 3) || ok && impl.TermSize(got) != 2997+lams {
			t.Errorf("ProofExtract returns %q for %q", brief(got), s)
		}
	}
	// Here something on the way is larger than the whole.
	for lams := 1; lams <= 3; lams++ {
		s := "(lam c top (app " + largeExtract(lams) + " c))"
		want, _ := impl.ProofExtract(largeExtract(lams))
		if got, ok := impl.ProofExtract(s); !ok || got != want || checkProof(t, s) == "" {
			t.Errorf("ProofExtract returns %q for %q", brief(got), s)
		}
	}
	// These extracts would not have room anywhere; but that of absurd does not depend on what it is made of.
	nested := func(opens int) string {
		return strings.Repeat("(open ", opens) + "b" + strings.Repeat(" x a b)", opens)
	}
	for opens := range 28 {
		s := "(lam b (ex x 1 top) " + nested(opens) + ")"
		if got, ok := impl.ProofFormula(s); !ok || got != "(imp (ex x 1 top) (ex x 1 top))" || impl.ProofSize(s) != 7+4*opens {
			t.Errorf("ProofFormula returns %q for %q", got, s)
		}
		if got, ok := impl.ProofExtract(s); ok != (opens < 8) || !ok && (got != "" || impl.ProofRealizes(s)) {
			t.Errorf("ProofExtract returns %q for %q", brief(got), s)
		}
		if got, ok := impl.ProofRun(s); opens >= 8 && (ok || got != "") {
			t.Errorf("ProofRun returns %q for %q", brief(got), s)
		}
		s = "(lam b (and bot (ex x 1 top)) (absurd (fst (pair (fst b) " + strings.ReplaceAll(nested(min(opens, 18)), "b", "(snd b)") + ")) bot))"
		if got, ok := impl.ProofExtract(s); !ok || got != app("k", identity) || !impl.ProofRealizes(s) {
			t.Errorf("ProofExtract returns %q for %q", brief(got), s)
		}
	}
}

// What is proved has an extract that realizes it, but not always within the limits.
func TestProofRunFails(t *testing.T) {
	runs, not := 0, 0
	s := "(inl triv top)"
	// Each of these asks three times for what the one within is.
	for range 7 {
		if checkProof(t, s) != "(or top top)" {
			t.Errorf("%q proves something else", s)
		}
		if extract, ok := impl.ProofExtract(s); !ok || impl.RealizeIs(extract, "(or top top)") != impl.ProofRealizes(s) {
			t.Errorf("ProofExtract returns %q for %q", extract, s)
		}
		if got, ok := impl.ProofRun(s); ok && got == pairText("k", identity) && impl.ProofRealizes(s) {
			runs++
		} else if !ok && got == "" && !impl.ProofRealizes(s) {
			not++
		}
		s = "(app (lam a (or top top) (case a b (case a c a d a) e a)) " + s + ")"
	}
	if runs+not != 7 || runs < 3 || not < 1 {
		t.Errorf("ProofRun succeeds %d times and fails %d times", runs, not)
	}
	for s, want := range map[string]bool{
		"(lam a " + fiveHundred + " triv)": true, "(lam a " + oneTooMany + " triv)": false, "(lam a " + oneTooMany + " a)": false, "(lam a " + strings.ReplaceAll(fiveHundred, "5", "3") + " a)": true, "(lam a bot (absurd a " + oneTooMany + "))": true, "(inl triv " + oneTooMany + ")": false, "(inl triv " + fiveHundred + ")": false, "(lam a (eq 0 1) (lam b " + oneTooMany + " b))": true,
	} {
		if f := checkProof(t, s); f == "" || impl.ProofRealizes(s) != want {
			t.Errorf("ProofRealizes returns %t for %q, which proves %q", !want, s, f)
		}
		if got, ok := impl.ProofRun(s); !ok || !impl.TermNormal(got) {
			t.Errorf("ProofRun returns %q for %q", got, s)
		}
	}
}

// Promise 56.
func TestProofJoin(t *testing.T) {
	list := append(smallProofs(40, 100), "triv", "(lam a top a)", "(gen x 2 triv)", sndOf(38, "triv"), sndOf(19, "triv"), "(lam a "+andOf(14)+" triv)", "(lam a "+andOf(13)+" triv)", "(lam a "+andOf(27)+" triv)", "(lam a "+andOf(28)+" triv)", "(lam a "+andOf(29)+" triv)", "a", "(calc 0 1)", "(fst triv)", "", "(triv)", "triv ", "triv triv", "(calc x x)", "(lam a (eq x 1) a)")
	joined, not := 0, 0
	for _, s := range list {
		for _, q := range list {
			both := "(pair " + s + " " + q + ")"
			one, ok := impl.ProofFormula(s)
			two, okTwo := impl.ProofFormula(q)
			formula := "(and " + one + " " + two + ")"
			want := ok && okTwo && formulaByText(formula) && wordsByText(both) <= 120
			got, ok := impl.ProofJoin(s, q)
			if ok != want || ok && got != both || !ok && got != "" {
				t.Fatalf("ProofJoin returns %q for %q and %q", got, s, q)
			}
			if !ok {
				not++
				continue
			}
			joined++
			if f, ok := impl.ProofFormula(got); !ok || f != formula {
				t.Errorf("%q proves %q", got, f)
			}
			for word, part := range map[string]string{"fst": one, "snd": two} {
				if f, ok := impl.ProofFormula("(" + word + " " + got + ")"); ok != (wordsByText(both) < 120) || ok && f != part {
					t.Errorf("%s of %q proves %q", word, got, f)
				}
			}
		}
	}
	if joined < 1000 || not < 1000 {
		t.Errorf("ProofJoin succeeds %d times and fails %d times", joined, not)
	}
	for _, c := range [][2]string{{"triv triv", "triv"}, {"triv", "triv triv"}, {"triv) (fst triv", "triv"}, {"a", "a"}, {"(lam a top", "a) triv"}, {"(pair triv", "triv)"}, {"", "triv"}, {"triv)", "(triv"}} {
		if got, ok := impl.ProofJoin(c[0], c[1]); ok || got != "" {
			t.Errorf("ProofJoin returns %q for %q and %q", got, c[0], c[1])
		}
	}
	// Of both just 120 atoms, and one more; and a formula of 60 atoms, and of more.
	for _, c := range []struct {
		s, q string
		want bool
	}{
		{sndOf(19, "(calc 0 0)"), sndOf(19, "(calc 0 0)"), false}, {sndOf(19, "triv"), sndOf(19, "(calc 0 0)"), true}, {sndOf(20, "triv"), sndOf(19, "triv"), true}, {sndOf(19, "triv"), sndOf(20, "triv"), true}, {sndOf(20, "triv"), sndOf(20, "triv"), false}, {sndOf(20, "triv"), sndOf(18, "(calc 0 0)"), true}, {sndOf(39, "triv"), "triv", true}, {sndOf(39, "triv"), "(calc 0 0)", false}, {sndOf(38, "(calc 0 0)"), "(fst (pair triv triv))", false},
		{"(lam a " + andOf(14) + " triv)", "(lam a " + andOf(14) + " triv)", true}, {"(lam a " + andOf(14) + " triv)", "(lam a " + andOf(15) + " triv)", false}, {"(lam a " + andOf(13) + " triv)", "(lam a " + andOf(15) + " triv)", true}, {"(lam a " + andOf(28) + " triv)", "triv", true}, {"(lam a " + andOf(29) + " triv)", "triv", false}, {"(calc " + sucOf(55, "1") + " 56)", "triv", true}, {"(calc " + sucOf(56, "1") + " 57)", "triv", false},
	} {
		if got, ok := impl.ProofJoin(c.s, c.q); ok != c.want || ok != (got != "") {
			t.Errorf("ProofJoin returns %q for %q and %q", got, c.s, c.q)
		}
	}
}
