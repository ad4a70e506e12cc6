package tests

import (
	"regexp"
	"slices"
	"strconv"
	"strings"
	"testing"

	"loop.example/realizers/impl"
)

var (
	lineForm   = regexp.MustCompile(`(?s)^(?:(term|data|numeral|realize|extract|apply|holds) (.*)|(step|normal|show|read|bit))$`)
	numberForm = regexp.MustCompile(`^[0-9]{1,2}$`)
)

// numeralByRules fails for what is no number, or one that has no numeral.
func numeralByRules(rest string) (string, bool) {
	n := -1
	if numberForm.MatchString(rest) {
		n, _ = strconv.Atoi(rest)
	}
	return impl.NumberOf(n)
}

// changeByRules returns what the term becomes. The last result is false for
// what changes nothing.
func changeByRules(term, word, rest string) (next string, ok, changes bool) {
	switch word {
	case "term":
		return rest, impl.TermValid(rest), true
	case "data":
		next, ok = impl.DataOf(rest)
	case "numeral":
		next, ok = numeralByRules(rest)
	case "realize":
		next, ok = impl.FunctionRealizer(rest)
	case "extract":
		next, ok = impl.ProofExtract(rest)
	case "apply":
		if numeral, has := numeralByRules(rest); has {
			next, ok = impl.ApplyOf(term, numeral)
		}
	case "step":
		next, ok = impl.TermStep(term)
	default:
		return "", false, false
	}
	return next, ok, true
}

// lineByRules returns the term behind a line, and the output of the line.
func lineByRules(term, line string) (string, string) {
	found := lineForm.FindStringSubmatch(line)
	if found == nil {
		return term, "what"
	}
	word, rest := found[1]+found[3], found[2]
	if next, ok, changes := changeByRules(term, word, rest); ok {
		return next, "ok"
	} else if changes {
		return term, "no"
	}
	n, ok := 0, false
	switch word {
	case "show":
		return term, term
	case "holds":
		if impl.RealizeIs(term, rest) {
			return term, "yes"
		}
	case "normal":
		next, steps, isNormal := impl.NormalOf(term)
		if isNormal {
			term, n, ok = next, steps, true
		}
	case "read":
		n, ok = impl.NumberRead(term)
	case "bit":
		n, ok = impl.BitRead(term)
	}
	if !ok {
		return term, "no"
	}
	return term, strconv.Itoa(n)
}

// outputsByRules returns the outputs of all lines of a script, and the last one.
func outputsByRules(script string) []string {
	if len(script) > 900 {
		return []string{"too long"}
	}
	var outputs []string
	term := "((s k) k)"
	for _, line := range regexp.MustCompile(`[^\n]*\n`).FindAllString(script, -1) {
		next, output := lineByRules(term, line[:len(line)-1])
		term = next
		outputs = append(outputs, output)
	}
	return append(outputs, "atoms "+strconv.Itoa(atomsByText(term)))
}

// checkScript holds the output of a script against the rules, and returns the
// outputs of its lines and the last one.
func checkScript(t *testing.T, script string) []string {
	t.Helper()
	want := outputsByRules(script)
	if got := impl.Execute(script); got != strings.Join(want, "\n")+"\n" {
		t.Errorf("Execute returns %q for %q, not %q", brief(got), brief(script), brief(strings.Join(want, "\n")+"\n"))
	}
	return want
}

func checkOutput(t *testing.T, script, want string) {
	t.Helper()
	if got := impl.Execute(script); got != want {
		t.Errorf("Execute returns %q for %q, not %q", brief(got), brief(script), brief(want))
	}
}

// script is one of complete lines.
func script(lines ...string) string { return strings.Join(append(lines, ""), "\n") }

func TestExecuteTexts(t *testing.T) {
	two := numeralText(2)
	for _, c := range []struct{ script, want string }{
		{"show\n", "((s k) k)\natoms 3\n"},
		{"read\n", "0\natoms 3\n"},
		{"bit\n", "no\natoms 3\n"},
		{"normal\n", "0\natoms 3\n"},
		{"step\n", "no\natoms 3\n"},
		{"holds top\n", "yes\natoms 3\n"},
		{"holds bot\n", "no\natoms 3\n"},
		{"apply 0\nshow\n", "ok\n((s k) k)\natoms 3\n"},
		{"apply 2\nread\nshow\n", "ok\n2\n" + two + "\natoms " + strconv.Itoa(atomsByText(two)) + "\n"},
		{"term k\n", "ok\natoms 1\n"},
		{"term (x y)\nshow\nterm z999\nshow\n", "ok\n(x y)\nok\nz999\natoms 1\n"},
		{"term a\nshow\n", "no\n((s k) k)\natoms 3\n"},
		{"term ((k k) x)\nstep\nshow\nstep\nshow\n", "ok\nok\nk\nno\nk\natoms 1\n"},
		{"term (((s k) k) (((s k) k) x))\nstep\nshow\n", "ok\nok\n((k (((s k) k) x)) (k (((s k) k) x)))\natoms 10\n"},
		{"term (((s k) k) (((s k) k) x))\nnormal\nshow\nnormal\n", "ok\n4\nx\n0\natoms 1\n"},
		{"data i\nshow\n", "ok\n((s k) k)\natoms 3\n"},
		{"data true\nshow\nbit\n", "ok\nk\n1\natoms 1\n"},
		{"data false\nshow\nbit\n", "ok\n(k ((s k) k))\n0\natoms 4\n"},
		{"data first\nshow\n", "ok\n((s ((s k) k)) (k k))\natoms 6\n"},
		{"data zero\napply 0\nbit\n", "ok\nok\n1\natoms 1\n"},
		{"data zero\napply 3\nbit\n", "ok\nok\n0\natoms 4\n"},
		{"data pred\napply 4\nread\n", "ok\nok\n3\natoms 36\n"},
		{"data succ\napply 4\nread\n", "ok\nok\n5\natoms 58\n"},
		{"numeral 1\nshow\nread\n", "ok\n" + numeralText(1) + "\n1\natoms 14\n"},
		{"numeral 60\nread\n", "ok\n60\natoms 663\n"},
		{"realize z0\nread\n", "ok\n0\natoms 3\n"},
		{"realize inc\napply 7\nread\n", "ok\nok\n8\natoms 91\n"},
		{"realize p12\nshow\napply 1\napply 2\nread\n", "ok\n(k ((s k) k))\nok\nok\n2\natoms 25\n"},
		{"realize (r z0 (c inc p12))\napply 3\nread\n", "ok\nok\n3\natoms 36\n"},
		{"extract triv\nshow\n", "ok\n((s k) k)\natoms 3\n"},
		{"extract (lam a bot (absurd a (eq 0 1)))\nshow\nholds (imp bot (eq 0 1))\n", "ok\n(k ((s k) k))\nyes\natoms 4\n"},
		{"extract (wit 2 x 3 (eq x 2) (calc 2 2))\nholds (ex x 3 (eq x 2))\nholds (ex x 2 (eq x 2))\n", "ok\nyes\nno\natoms 35\n"},
		{"term ((k k) x)\nbit\nshow\n", "ok\n1\n((k k) x)\natoms 3\n"},
		{"term (((s k) k) ((s k) k))\nread\nshow\n", "ok\n0\n(((s k) k) ((s k) k))\natoms 6\n"},
		{"term (((s k) k) ((s k) k))\nholds top\nshow\n", "ok\nyes\n(((s k) k) ((s k) k))\natoms 6\n"},
		// What is not closed realizes nothing, and what has names may be read.
		{"term ((k ((s k) k)) x)\nholds top\nread\nstep\nholds top\n", "ok\nno\n0\nok\nyes\natoms 3\n"},
		{"term (((s k) k) (k k))\napply 1\nshow\n", "ok\nok\nk\natoms 1\n"},
		{"term x\napply 0\nshow\nbit\nread\nholds top\nstep\nnormal\n", "ok\nok\n(x ((s k) k))\nno\nno\nno\nno\n0\natoms 4\n"},
	} {
		checkOutput(t, c.script, c.want)
		checkScript(t, c.script)
	}
}

// Promise 65.
func TestExecuteEnds(t *testing.T) {
	checkOutput(t, "", "atoms 3\n")
	for _, start := range []string{"", "\n", "term k\n", "show\n", "zzz\n", "term a\n", "term x\nshow\n", "numeral 9\n", "\n\n\n", "term (k s)\n\n"} {
		want := impl.Execute(start)
		checkScript(t, start)
		for _, end := range []string{"k", " ", "show", "show ", "term (k k)", "term k", "data true", "numeral 3", "apply 1", "step", "normal", "zzz", "\r", "\x00", "\xff", "\xe2\x80\xa8", "term ((k k) k)\rstep\r", strings.Repeat("x", 900-len(start))} {
			checkOutput(t, start+end, want)
		}
	}
	checkOutput(t, "\n", "what\natoms 3\n")
	checkOutput(t, "\n\n", "what\nwhat\natoms 3\n")
}

// Lines that are none of the ones told, and change nothing.
func TestExecuteOtherLines(t *testing.T) {
	lines := []string{
		"", " ", "  ", "\t", "\r", "\x00", "\xff", "\xc2\xa0", "k", "((s k) k)", "zzz", "zzz ", "zzz k", "what", "ok", "no", "yes", "atoms", "atoms 3", "too long", "run", "join", "quote", "i", "true", "0", "1", "top", "triv", "z0",
		"put x", "size", "names", "closed", "canon top", "tests top", "formula top", "prove triv", "code k", "kind bit", "reader", "bits", "termterm k", "help", "quit", "exit", "# k", "-", ";", "term;k", "term=k", "term,k",
	}
	withRest := []string{"term", "data", "numeral", "realize", "extract", "apply", "holds"}
	for i, word := range withRest {
		rest := []string{"k", "true", "2", "inc", "triv", "2", "top"}[i]
		lines = append(lines, word, " "+word, "  "+word+" "+rest, " "+word+" "+rest, word+rest, word+"\t"+rest, word+"\r"+rest, word+"\xc2\xa0"+rest, word+"("+rest+")", word+"\x00 "+rest, "\x00"+word+" "+rest, word+"\r", word+"\t", word+"\x00")
		lines = append(lines, strings.ToUpper(word)+" "+rest, strings.ToUpper(word[:1])+word[1:]+" "+rest, word[1:]+" "+rest, word[:len(word)-1]+" "+rest, word+"s "+rest, word+word+" "+rest)
	}
	for _, word := range []string{"step", "normal", "show", "read", "bit"} {
		lines = append(lines, word+" ", word+"  ", " "+word, " "+word+" ", word+" 1", word+" k", word+" "+word, word+"\r", word+"\t", word+"\x00", "\x00"+word, word+"\xc2\xa0", word+"s", word[1:], word[:len(word)-1], word+word, strings.ToUpper(word), strings.ToUpper(word[:1])+word[1:], word+".", "("+word+")")
	}
	for _, line := range lines {
		checkOutput(t, line+"\n", "what\natoms 3\n")
		checkOutput(t, script("term ((k (x y)) s)", line, "show", line), "ok\nwhat\n((k (x y)) s)\nwhat\natoms 4\n")
	}
	// Without a rest that is told, and with an empty one, and so the other way round.
	for _, word := range withRest {
		checkOutput(t, word+"\n", "what\natoms 3\n")
		checkOutput(t, word+" \n", "no\natoms 3\n")
	}
}

// What fails is told, and changes nothing.
func TestExecuteFails(t *testing.T) {
	var lines []string
	for word, rests := range map[string][]string{
		"term":    {"a", "(k k", "(k  k)", " k", "k ", "k k", "term k", "((k k))", "i", "true", "0", "k\r", "\xff", nestedRight(150, "A")},
		"data":    {"x", "k", "I", "True", " true", "true ", "true\r", "true true", "run", "join", "quote", "first ", "succ 1", "0", "(fix)", "identity", "z0"},
		"numeral": {"61", "62", "99", "100", "000", "001", "060", "-1", "-0", "+1", " 1", "1 ", "1.", "1e", "0x", "1_", "x", "k", "zero", "1\r", "\xd9\xa1", "1\x00", "4294967297", "18446744073709551617", "1 2", "a1", "1a", "/0", ":0", "0/", "0:"},
		"realize": {"z4", "z", "ink", " inc", "inc ", "(c inc)", "(c inc z0", "(m z0)", "(r z0 z0)", "p11", "k", "top", "inc 1", incOf(20, "inc")},
		"extract": {"a", "top", "k", "(lam a top b)", "(fst triv)", " triv", "triv ", "(calc 0 1)", "(calc x x)", "(absurd triv bot)", "(app triv triv)", largeExtract(4)},
		"apply":   {"61", "99", "100", "-1", "z", "k", "007", " 1", "1 ", "x", "+0", "numeral", "0 0"},
		"holds":   {"bot", "top", "k", "(eq 0 0)", "(all x 7 top)", "(eq x x)", " top", "top ", "(ex x 3 (eq x 0))", "(imp top top)", "yes"},
	} {
		for _, rest := range rests {
			lines = append(lines, word+" "+rest, word+" ")
		}
	}
	for _, line := range append(lines, "step", "read", "bit") {
		text := script("term (s k)", line, "show")
		if len(text) > impl.MaxScript {
			t.Fatalf("%q is too long", line)
		}
		checkOutput(t, text, "ok\nno\n(s k)\natoms 2\n")
	}
	// Neither of these comes to a normal term.
	for _, term := range []string{endless, growing} {
		checkOutput(t, script("term "+term, "normal", "read", "bit", "apply 2", "holds top", "show"), "ok\nno\nno\nno\nno\nno\n"+term+"\natoms "+strconv.Itoa(atomsByText(term))+"\n")
	}
	// What it proves is told by the formula, though the extract is too large.
	if _, ok := impl.ProofFormula(largeExtract(4)); !ok {
		t.Errorf("ProofFormula fails for %q", largeExtract(4))
	}
	checkOutput(t, script("extract "+largeExtract(3)), "ok\natoms 3000\n")
}

// All texts of up to three bytes of a few that are, or are near to, digits.
func TestExecuteNumbers(t *testing.T) {
	var texts []string
	for _, c := range strings.Split("/0123456789:- x+", "") {
		texts = append(texts, c)
		for _, d := range strings.Split("/0123456789:- x+", "") {
			texts = append(texts, c+d, c+d+"0", c+d+" ", "0"+c+d)
		}
	}
	numerals, not := 0, 0
	for _, text := range append(texts, "", "\xd9\xa1", "\xd9", "1\xff", "\x001") {
		n, err := strconv.Atoi(text)
		isNumber := err == nil && len(text) < 3 && n <= 60 && !strings.ContainsAny(text, "+-")
		numeral, read, atoms := "no", "0", "3"
		if isNumber {
			numerals++
			numeral, read, atoms = "ok", strconv.Itoa(n), strconv.Itoa(3+11*n)
		} else {
			not++
		}
		checkOutput(t, script("numeral "+text, "read"), numeral+"\n"+read+"\natoms "+atoms+"\n")
		checkOutput(t, script("apply "+text, "read"), numeral+"\n"+read+"\natoms "+atoms+"\n")
	}
	if numerals < 71 || not < 500 {
		t.Errorf("%d texts have numerals, and %d have none", numerals, not)
	}
}

// A term that grows by steps until it is too large stays as it was then.
func TestExecuteStepsTooLarge(t *testing.T) {
	double := func(text string) string { return app("s", "x", "x", text) }
	term := flat(110, "x")
	for range 5 {
		term = double(term)
	}
	text := script("term "+term) + strings.Repeat("step\n", 60)
	outputs := checkScript(t, text)
	steps := slices.Index(outputs, "no") - 1
	if steps < 20 || slices.ContainsFunc(outputs[:steps+1], func(s string) bool { return s != "ok" }) || slices.ContainsFunc(outputs[steps+1:61], func(s string) bool { return s != "no" }) {
		t.Errorf("the outputs for %q are %q", text, outputs)
	}
	last := term
	for range steps {
		last, _ = stepByText(last)
	}
	next, _ := stepByText(last)
	if atoms := atomsByText(last); outputs[61] != "atoms "+strconv.Itoa(atoms) || atoms > impl.SizeMax || atomsByText(next) <= impl.SizeMax {
		t.Errorf("Execute tells %q for a term of %d atoms", outputs[61], atoms)
	}
	checkOutput(t, script("term "+term, "normal", "show"), "ok\nno\n"+term+"\natoms "+strconv.Itoa(atomsByText(term))+"\n")
}

// The limit counts all bytes, those behind the last newline, too.
func TestExecuteLength(t *testing.T) {
	if impl.MaxScript != 900 {
		t.Fatalf("MaxScript is %d", impl.MaxScript)
	}
	for _, c := range []struct{ start, filler, end string }{
		{"", "x", ""}, {"", "\n", ""}, {"", "show\n", ""}, {"term k\n", " ", ""}, {"term x\nshow\n", "x", "\n"}, {"term ", "x", "\n"}, {"", "\x00", "\n"}, {"", "\xff", ""}, {"", "\xc3\xa4", ""}, {"", "\xe2\x82\xac", "\n"}, {"numeral 3\n", "step\n", "show\n"}, {"data fix\n", "\r\n", ""}, {"numeral ", "0", "\n"},
	} {
		text := c.start + strings.Repeat(c.filler, 900)
		text = text[:900-len(c.end)] + c.end
		outputs := checkScript(t, text)
		if len(text) != 900 || outputs[0] == "too long" {
			t.Errorf("a script of %d bytes has the outputs %q", len(text), outputs)
		}
		checkScript(t, text[:899])
		for _, more := range []string{"\n", "x", " ", "\x00", "\xff", "show\n", strings.Repeat("\n", 5000)} {
			checkOutput(t, text+more, "too long\n")
			checkOutput(t, more+text, "too long\n")
		}
	}
	checkOutput(t, strings.Repeat("\n", 900), strings.Repeat("what\n", 900)+"atoms 3\n")
	checkOutput(t, strings.Repeat("\n", 901), "too long\n")
	checkOutput(t, strings.Repeat("show\n", 180), strings.Repeat("((s k) k)\n", 180)+"atoms 3\n")
	checkOutput(t, strings.Repeat("term k\n", 20000000), "too long\n")
	// Characters of two bytes count twice.
	checkOutput(t, strings.Repeat("\xc3\xa4", 450), "atoms 3\n")
	checkOutput(t, strings.Repeat("\xc3\xa4", 450)+"k", "too long\n")
}

// rests are texts for each word, of which some fail, and nothing for words
// without a rest.
func rests() map[string][]string {
	m := map[string][]string{
		"data":    {"i", "true", "false", "pair", "first", "second", "zero", "succ", "pred", "fix", "x", "", "k"},
		"numeral": {"0", "1", "2", "7", "07", "00", "60", "61", "100", "", "-1"},
		"apply":   {"0", "1", "2", "3", "03", "5", "0", "1", "61", "", "x"},
		"step":    nil, "normal": nil, "show": nil, "read": nil, "bit": nil,
	}
	m["term"] = slices.Concat(termsUpTo(3, []string{"k", "s", "x"}), mixedTerms(60), []string{identity, endless, growing, numeralText(3), falseText, "((k k) x)", "a", "", "(k k", "k "})
	for _, f := range slices.Concat(functionsUpTo(4)[:60], mixedFunctions(40)) {
		// Without it fewer of them come to no normal term, which takes long.
		if f.total() {
			m["realize"] = append(m["realize"], f.text)
		}
	}
	m["realize"] = append(m["realize"], "(m p01)", "(m (c inc p01))", "(r p01 (c inc p13))", "(r z0 (c inc p12))", "(c inc inc)", "inc", "inc", "z4", "", "(c inc)")
	for _, s := range smallProofs(60, 120) {
		f, _ := impl.ProofFormula(s)
		m["extract"], m["holds"] = append(m["extract"], s), append(m["holds"], f)
	}
	m["extract"] = append(m["extract"], "triv", "a", "", "(fst triv)")
	m["holds"] = append(m["holds"], "top", "(imp top top)", "(imp bot bot)", "(or top bot)", "(ex x 3 (eq x 2))", "bot", "", "(eq x x)", "(all x 7 top)")
	return m
}

var words = []string{"term", "data", "numeral", "realize", "extract", "apply", "step", "normal", "show", "read", "bit", "holds"}

// scriptLine is a line of any kind, and now and then none of the ones told.
func (m *mixer) scriptLine(rests map[string][]string) string {
	word := words[m.choice(len(words))]
	line := word
	if list := rests[word]; list != nil {
		line += " " + list[m.choice(len(list))]
	}
	switch m.choice(16) {
	case 0:
		return word + []string{"", " ", " k", " 1", "x", "\r"}[m.choice(6)]
	case 1:
		return []string{"", " ", "zzz", "Term k", "\xff"}[m.choice(5)]
	}
	return line
}

// mixedScripts returns scripts of at most 900 bytes, some of them with a last
// line without a newline.
func mixedScripts(count int) []string {
	m := &mixer{seed: 65}
	rests := rests()
	var list []string
	for n := range count {
		text := ""
		for range 1 + n%40 {
			line := m.scriptLine(rests)
			if len(text)+len(line) < 900 {
				text += line + "\n"
			}
		}
		if n%5 == 0 {
			text += "show"
		}
		list = append(list, text[:min(len(text), 900)])
	}
	return list
}

func TestExecuteScripts(t *testing.T) {
	counts := map[string]int{}
	for _, text := range mixedScripts(800) {
		lines := strings.Split(text, "\n")
		outputs := checkScript(t, text)
		for i, output := range outputs[:len(outputs)-1] {
			word, _, _ := strings.Cut(lines[i], " ")
			counts[output]++
			counts[word+" "+output]++
		}
		if t.Failed() {
			return
		}
	}
	for kind, least := range map[string]int{
		"ok": 5000, "no": 2000, "what": 1000, "yes": 200, "0": 300, "1": 50, "term ok": 1000, "term no": 50, "data ok": 500, "data no": 100, "numeral ok": 500, "numeral no": 300, "realize ok": 800, "realize no": 50, "extract ok": 800, "extract no": 20,
		"apply ok": 500, "apply no": 300, "step ok": 100, "step no": 500, "normal 0": 300, "normal no": 10, "read 0": 50, "read no": 500, "bit 0": 10, "bit 1": 10, "bit no": 500, "holds yes": 200, "holds no": 500,
	} {
		if counts[kind] < least {
			t.Errorf("%d outputs are %q", counts[kind], kind)
		}
	}
}

// Scripts that are changed a bit follow the rules, too.
func TestExecuteChanged(t *testing.T) {
	for _, text := range []string{
		"term ((k k) x)\nstep\nshow\n", "data succ\napply 2\nread\n", "numeral 12\nnormal\nread\n", "realize (c inc inc)\napply 1\nread\n", "extract (lam a top a)\nholds (imp top top)\n", "data true\nbit\nshow\n", "term (((s k) k) x)\nnormal\nshow",
	} {
		for i := range len(text) + 1 {
			for _, c := range []string{"", " ", "\n", "\r", "\x00", "0", "1", "k", "x", "(", ")", "s", "term ", "\nshow\n", "step\n"} {
				checkScript(t, text[:i]+c+text[i:])
				checkScript(t, text[:i]+c+text[min(i+1, len(text)):])
				checkScript(t, text[:i]+c)
			}
		}
		if t.Failed() {
			return
		}
	}
}

// A call does not see what another one left behind.
func TestExecuteKeepsNothing(t *testing.T) {
	for _, text := range mixedScripts(100) {
		first := impl.Execute(text)
		impl.Execute("numeral 60\n")
		checkOutput(t, "show\nread\n", "((s k) k)\n0\natoms 3\n")
		checkOutput(t, text, first)
	}
}

// scriptsWithRoom returns scripts of complete lines with room for so many bytes,
// among them some with room for no more, and the empty one.
func scriptsWithRoom(t *testing.T, room int) []string {
	t.Helper()
	list := []string{"", "term " + strings.Repeat("x", 900-room-6) + "\n", "numeral 7\n" + strings.Repeat("\n", 900-room-10)}
	for _, text := range mixedScripts(300) {
		text = text[:strings.LastIndex(text, "\n")+1]
		if len(text) <= 900-room {
			list = append(list, text)
		}
	}
	if len(list) < 200 {
		t.Errorf("%d scripts have room", len(list))
	}
	return list
}

// Promise 66.
func TestExecuteStays(t *testing.T) {
	for _, text := range scriptsWithRoom(t, 11) {
		outputs := outputsByRules(text)
		end := len(outputs) - 1
		want := slices.Concat(outputs[:end], []string{"what", "no"}, outputs[end:])
		checkOutput(t, text+"zzz\nterm a\n", strings.Join(want, "\n")+"\n")
		if got := impl.Execute(text); !strings.HasSuffix(got, want[len(want)-1]+"\n") {
			t.Errorf("Execute returns %q for %q", brief(got), text)
		}
	}
}

// Promise 67.
func TestExecuteShows(t *testing.T) {
	for _, text := range scriptsWithRoom(t, 10) {
		got := strings.Split(impl.Execute(text+"show\nshow\n"), "\n")
		n := len(got)
		if got[n-1] != "" || got[n-3] != got[n-4] || got[n-2] != "atoms "+strconv.Itoa(impl.TermSize(got[n-3])) {
			t.Errorf("Execute returns %q for %q", got, text)
		}
	}
}

// Promise 68.
func TestExecuteNormal(t *testing.T) {
	normals := 0
	for i, term := range slices.Concat(termsUpTo(4, []string{"k", "s", "x"}), mixedTerms(400), []string{endless, growing, app(succText, numeralText(9)), slowTerm(t, 30)}) {
		start := []string{"", "zzz\n", "term a\n", "numeral 3\n", "data fix\nstep\n"}[i%5]
		normal, steps, ok := impl.NormalOf(term)
		want := "ok\n" + strconv.Itoa(steps) + "\n" + normal + "\natoms " + strconv.Itoa(impl.TermSize(normal)) + "\n"
		if ok {
			normals++
		} else {
			want = "ok\nno\n" + term + "\natoms " + strconv.Itoa(impl.TermSize(term)) + "\n"
		}
		text := start + script("term "+term, "normal", "show")
		if got := impl.Execute(text); len(text) <= 900 && !strings.HasSuffix(got, want) {
			t.Errorf("Execute returns %q for %q", brief(got), brief(text))
		}
	}
	if normals < 500 {
		t.Errorf("%d terms come to normal ones", normals)
	}
}

// Promise 69.
func TestExecuteRealize(t *testing.T) {
	runs := 0
	for _, f := range slices.Concat(functionsUpTo(5), mixedFunctions(200)) {
		if f.arity != 1 {
			continue
		}
		for n := range 4 {
			value, ok := impl.FunctionRun(f.text, []int{n})
			realizer, _ := impl.FunctionRealizer(f.text)
			if _, comes := impl.ApplyOf(realizer, numeralText(n)); !ok || !comes {
				continue
			}
			runs++
			got := impl.Execute(script("realize "+f.text, "apply "+strconv.Itoa(n), "read"))
			if want := "ok\nok\n" + strconv.Itoa(value) + "\natoms "; !strings.HasPrefix(got, want) || strings.Count(got, "\n") != 4 {
				t.Errorf("Execute returns %q for %q and %d, not %q", got, f.text, n, want)
			}
		}
	}
	if runs < 500 {
		t.Errorf("%d functions run", runs)
	}
}

// Promise 70.
func TestExecuteExtract(t *testing.T) {
	realized := 0
	for _, s := range mixedProofs(1500) {
		f, _ := impl.ProofFormula(s)
		text := script("extract "+s, "holds "+f)
		if !impl.ProofRealizes(s) || len(text) > impl.MaxScript {
			continue
		}
		realized++
		extract, _ := impl.ProofExtract(s)
		checkOutput(t, text, "ok\nyes\natoms "+strconv.Itoa(atomsByText(extract))+"\n")
	}
	if realized < 1000 {
		t.Errorf("%d proofs are realized", realized)
	}
}
