package tests

import (
	"math"
	"slices"
	"strconv"
	"strings"
	"testing"

	"loop.example/realizers/impl"
)

// kindByText returns a kind in its parts, or nil if the text is none.
func kindByText(text string) *tree {
	if t := split(text); t != nil && wordsByText(text) <= 15 && t.kindCount() > 0 {
		return t
	}
	return nil
}

// kindCount returns the number of values of what is a kind, but for the number
// of its atoms, and otherwise 0.
func (t *tree) kindCount() int {
	if t.text == "bit" {
		return 2
	}
	switch len(t.parts) {
	case 2:
		if t.parts[0].text == "nat" && slices.Contains(strings.Split("123456", ""), t.parts[1].text) {
			return int(t.parts[1].text[0] - '0')
		}
	case 3:
		a, b := t.parts[1].kindCount(), t.parts[2].kindCount()
		count := 0.0
		if t.parts[0].text == "prod" {
			count = float64(a) * float64(b)
		} else if t.parts[0].text == "fun" && !strings.Contains(t.parts[1].text, "fun") {
			count = math.Pow(float64(b), float64(a))
		}
		if a > 0 && b > 0 && count <= 36 {
			return int(count)
		}
	}
	return 0
}

func (t *tree) head() string {
	if len(t.parts) == 0 {
		return t.text
	}
	return t.parts[0].text
}

func upTo(count int) []int {
	var list []int
	for n := range count {
		list = append(list, n)
	}
	return list
}

// rows are the values of both parts for each value of a product, and the values
// at all values for each value of functions, of which the first one changes
// fastest.
func (t *tree) rows() [][]int {
	a, b := t.parts[1].kindCount(), t.parts[2].kindCount()
	var list [][]int
	if t.head() == "prod" {
		for i := range a {
			for j := range b {
				list = append(list, []int{i, j})
			}
		}
		return list
	}
	list = argumentLists(a, upTo(b)...)
	for _, row := range list {
		slices.Reverse(row)
	}
	return list
}

func (t *tree) rowNumber(row []int) int {
	return slices.IndexFunc(t.rows(), func(other []int) bool { return slices.Equal(row, other) })
}

// valueOf follows the rules of values along texts.
func (t *tree) valueOf(r string) (int, bool) {
	switch t.head() {
	case "bit":
		return impl.BitRead(r)
	case "nat":
		n, ok := impl.NumberRead(r)
		return n, ok && n < t.kindCount()
	case "prod":
		front, ok := t.parts[1].valueOf(app(firstText, r))
		back, okBack := t.parts[2].valueOf(app(secondText, r))
		return t.rowNumber([]int{front, back}), ok && okBack
	}
	row, ok := t.tableOf(r)
	return t.rowNumber(row), ok
}

func (t *tree) tableOf(r string) ([]int, bool) {
	var row []int
	for v := range t.parts[1].kindCount() {
		value, ok := t.parts[2].valueOf(app(r, t.parts[1].standardOf(v)))
		if !ok {
			return nil, false
		}
		row = append(row, value)
	}
	return row, true
}

// standardOf follows the rules of standard terms along texts.
func (t *tree) standardOf(v int) string {
	switch t.head() {
	case "bit":
		return []string{falseText, "k"}[v]
	case "nat":
		return numeralText(v)
	case "prod":
		row := t.rows()[v]
		return pairText(t.parts[1].standardOf(row[0]), t.parts[2].standardOf(row[1]))
	}
	return abstractByText("z", t.choices(t.rows()[v], 0))
}

// choices is T for a value.
func (t *tree) choices(row []int, v int) string {
	m := t.parts[2].standardOf(row[v])
	if v == len(row)-1 {
		return m
	}
	return app(app(t.parts[1].testFor(v), "z"), m, t.choices(row, v+1))
}

// testFor follows the rules of tests. Zero is the same as first.
func (t *tree) testFor(v int) string {
	body := "k"
	if v < t.kindCount()-1 {
		switch t.head() {
		case "nat":
			body = app(firstText, strings.Repeat("("+predData+" ", v)+"x"+strings.Repeat(")", v))
		case "bit":
			body = app("x", falseText, "k")
		case "prod":
			row := t.rows()[v]
			front, back := t.parts[1].testFor(row[0]), t.parts[2].testFor(row[1])
			body = app(app(front, app(firstText, "x")), app(back, app(secondText, "x")), falseText)
		}
	}
	return abstractByText("x", body)
}

// kindsOf are the kinds of a number of atoms.
func kindsOf(atoms int) []string {
	var list []string
	switch atoms {
	case 1:
		list = []string{"bit"}
	case 2:
		for n := 1; n <= 6; n++ {
			list = append(list, "(nat "+strconv.Itoa(n)+")")
		}
	}
	for n := 1; n < atoms-1; n++ {
		for _, a := range kindsOf(n) {
			for _, b := range kindsOf(atoms - 1 - n) {
				list = append(list, "(prod "+a+" "+b+")", "(fun "+a+" "+b+")")
			}
		}
	}
	return slices.DeleteFunc(list, func(s string) bool { return kindByText(s) == nil })
}

func kindsUpTo(atoms int) []string {
	var list []string
	for n := 1; n <= atoms; n++ {
		list = append(list, kindsOf(n)...)
	}
	return list
}

// mixedKind returns a text that is a kind but for its limits.
func (m *mixer) mixedKind(depth int, functions bool) string {
	if depth == 0 || m.choice(5) == 0 {
		return []string{"bit", "(nat 1)", "(nat 1)", "(nat 2)", "(nat " + strconv.Itoa(1+m.choice(6)) + ")"}[m.choice(5)]
	}
	word := "prod"
	if functions && m.choice(2) == 0 {
		word = "fun"
	}
	return "(" + word + " " + m.mixedKind(depth-1, functions && word == "prod") + " " + m.mixedKind(depth-1, functions) + ")"
}

// mixedKinds returns kinds of 8 to 15 atoms.
func mixedKinds(count int) []string {
	m := &mixer{seed: 8}
	var list []string
	for n := 0; len(list) < count; n++ {
		if s := m.mixedKind(2+n%5, true); wordsByText(s) >= 8 && kindByText(s) != nil {
			list = append(list, s)
		}
	}
	return list
}

// chain is a kind that has another one within others, of 3 atoms each, that do
// not change the number of values.
func chain(count int, last string) string {
	return strings.Repeat("(prod (nat 1) ", count) + last + strings.Repeat(")", count)
}

// noKinds are no kinds, but for those that are too large.
func noKinds() []string {
	list := []string{
		"", " ", "(", ")", "()", "( )", "bi", "bits", "Bit", "BIT", "b", "0", "1", "2", "nat", "prod", "fun", "top", "bit ", " bit", "bit bit", "bit)", "(bit", "(bit)", "((bit))", "bit\n", "bit\x00", "\xff", "b\xc3\xaft",
		"(nat)", "(nat )", "(nat 0)", "(nat 7)", "(nat 8)", "(nat 9)", "(nat 10)", "(nat 11)", "(nat 36)", "(nat 60)", "(nat -1)", "(nat +1)", "(nat -0)", "(nat 00)", "(nat 01)", "(nat 001)", "(nat 06)", "(nat 1.)", "(nat 1.0)", "(nat 1e0)", "(nat 0x1)", "(nat 1_0)", "(nat \xd9\xa1)", "(nat 4294967297)", "(nat 18446744073709551617)", "(nat 99999999999999999999999)",
		"nat 3", "(nat 3", "nat 3)", "(nat 3))", "((nat 3)", "((nat 3))", "(nat  3)", "( nat 3)", "(nat 3 )", " (nat 3)", "(nat 3) ", "(nat3)", "(nat 3 3)", "(nat (3))", "(nat x)", "(nat bit)", "(nat (nat 3))", "(Nat 3)", "(NAT 3)", "(na 3)", "(nats 3)", "(3 nat)", "(3)", "(bit 3)", "(nat\t3)", "(nat\n3)", "[nat 3]", "(nat,3)", "(nat -)", "(nat 3\x00)", "(nat \xff)", "(nat 3)(nat 3)", "(nat 3) (nat 3)",
		"(bits 1)", "(bit 2)", "(all 3)", "(FUN bit bit)", "(PROD bit bit)", "(Fun bit bit)", "(Prod bit bit)", "(fu bit bit)", "(pro bit bit)", "(funs bit bit)", "( bit bit)", "(nat bit bit)", "(bit bit bit)", "(fun bit)", "(prod (nat 3))", "(pair bit bit)", "(sum bit bit)", "(product bit bit)", "(function bit bit)", "(imp bit bit)", "(and bit bit)",
	}
	for _, word := range []string{"prod", "fun"} {
		for _, s := range []string{
			"(W)", "(W )", "(W bit)", "(W bit )", "(W  bit)", "(W  bit bit)", "(W bit  bit)", "(W bit bit )", "( W bit bit)", "(W bit bit", "W bit bit)", "W bit bit", "(W bit bit))", "((W bit bit)", "((W bit bit))", " (W bit bit)", "(W bit bit) ", "(W bit bit bit)", "(W (bit) bit)", "(W bit (bit))", "(W bit,bit)", "(W\tbit bit)", "(W bit\nbit)", "[W bit bit]", "(Wbit bit)", "(W bitbit)", "(W(nat 2) bit)", "(W (nat 2)bit)", "(W bit(nat 2))", "(W (nat 2) (nat 3)", "(W (nat 2)) (nat 3)", "(W (nat 2)) (nat 3))",
			"(W nat 2 bit)", "(W bit nat 2)", "(W 2 bit)", "(W bit 2)", "(W 2 3)", "(W (nat 0) bit)", "(W bit (nat 0))", "(W (nat 7) bit)", "(W bit (nat 7))", "(W (nat 01) bit)", "(W bit top)", "(W top bit)", "(W W bit)", "(W bit W)", "(W (W bit) bit)", "(W bit (W bit))", "(bit W bit)", "(bit bit W)", "(W bit \xff)", "(W bit bit\x00)", "(2W bit bit)", "(W2 bit bit)",
		} {
			list = append(list, strings.ReplaceAll(s, "W", word), strings.ReplaceAll(s, "W", strings.ToUpper(word)))
		}
	}
	return list
}

// largeNoKinds are no kinds as they have too many values or atoms, or fun at a
// wrong place, or would take more room than there is.
func largeNoKinds() []string {
	return []string{
		"(prod (nat 6) (prod bit (nat 4)))", "(prod (prod (nat 6) (nat 6)) bit)", "(prod bit (prod (nat 6) (nat 6)))", "(prod (nat 5) (prod bit (nat 4)))", "(prod bit (prod (nat 4) (nat 5)))", "(prod (prod (nat 6) (nat 6)) (prod (nat 6) (nat 6)))", "(prod (fun bit (nat 6)) bit)", "(prod bit (fun bit (nat 6)))", "(prod (fun (nat 5) bit) bit)",
		"(fun (nat 6) bit)", "(fun (nat 6) (nat 2))", "(fun (nat 4) (nat 3))", "(fun (nat 3) (nat 4))", "(fun (nat 5) (nat 3))", "(fun (nat 6) (nat 6))", "(fun (prod bit (nat 3)) bit)", "(fun (prod (nat 6) (nat 6)) bit)", "(fun (prod (nat 6) (nat 6)) (nat 2))", "(fun (prod (nat 6) (nat 6)) (nat 4))", "(fun (prod (nat 4) (nat 4)) (prod (nat 4) (nat 4)))", "(fun (prod (nat 4) (nat 4)) (nat 4))", "(fun (prod (nat 6) (nat 6)) (prod (nat 6) (nat 6)))", "(fun (prod (nat 4) (nat 8)) (nat 4))", "(fun bit (prod bit (nat 4)))", "(fun bit (prod (nat 6) (nat 6)))", "(fun bit (fun bit (nat 3)))", "(fun bit (fun (nat 3) bit))", "(fun (nat 3) (fun bit bit))",
		// There is a part with too many values, of all the same.
		"(fun (prod (nat 6) (prod (nat 6) bit)) (nat 1))", "(fun (prod (prod (nat 5) (nat 4)) bit) (nat 1))", "(fun (prod (nat 6) (prod (nat 4) (nat 2))) (prod (nat 1) (nat 1)))", "(fun (fun (nat 6) bit) (nat 1))",
		// There is fun in what is ahead.
		"(fun (fun bit bit) bit)", "(fun (fun bit bit) (nat 1))", "(fun (fun (nat 1) (nat 1)) bit)", "(fun (fun (nat 1) (nat 1)) (nat 1))", "(fun (prod bit (fun (nat 1) bit)) (nat 1))", "(fun (prod (fun (nat 1) (nat 1)) bit) bit)", "(fun (prod bit (prod (nat 1) (fun (nat 1) (nat 1)))) bit)", "(fun bit (fun (fun (nat 1) (nat 1)) bit))", "(prod bit (fun (fun (nat 1) (nat 1)) bit))", "(fun (fun (fun (nat 1) (nat 1)) (nat 1)) (nat 1))",
		chain(5, "bit"), chain(4, "(fun bit (nat 1))"), chain(4, "(prod bit (nat 1))"), chain(3, "(prod bit (prod bit (prod bit bit)))"), chain(7, "bit"), "(prod " + chain(2, "bit") + " " + chain(2, "(nat 2)") + ")", "(fun " + chain(2, "(nat 2)") + " " + chain(2, "bit") + ")", "(fun bit " + chain(4, "(nat 1)") + ")", "(fun " + chain(4, "bit") + " (nat 1))",
		strings.Repeat("(", 20000000), strings.Repeat("(prod ", 5000000), strings.Repeat("(fun bit ", 3000000), strings.Repeat(")", 1000000), strings.Repeat("bit", 1000000), "(nat " + strings.Repeat("1", 1000000) + ")", "(nat " + strings.Repeat("0", 1000000) + "1)", chain(100000, "bit"), "bit" + strings.Repeat(" ", 1000000),
	}
}

// checkNoKind checks that nothing takes a text that is none.
func checkNoKind(t *testing.T, s string) {
	t.Helper()
	if impl.KindValid(s) || impl.KindCount(s) != -1 {
		t.Errorf("a kind is %q, with %d values", brief(s), impl.KindCount(s))
	}
	for _, r := range []string{"k", identity, app("k", identity), app("k", "k"), pairText("k", "k"), pairText(identity, identity)} {
		if v, ok := impl.KindValue(s, r); ok || v != 0 {
			t.Errorf("KindValue returns %d for %q", v, brief(s))
		}
		if x, ok := impl.KindTable(s, r); ok || len(x) > 0 {
			t.Errorf("KindTable returns %v for %q", x, brief(s))
		}
		if impl.KindEqual(s, r, r) {
			t.Errorf("KindEqual holds for %q", brief(s))
		}
	}
	for _, v := range []int{-1, 0, 1} {
		if r, ok := impl.KindStandard(s, v); ok || r != "" {
			t.Errorf("KindStandard returns %q for %q", r, brief(s))
		}
		if r, ok := impl.KindFind(s, v, 5); ok || r != "" {
			t.Errorf("KindFind returns %q for %q", r, brief(s))
		}
	}
}

func TestNoKinds(t *testing.T) {
	for _, s := range slices.Concat(noKinds(), largeNoKinds(), noTerms()) {
		checkNoKind(t, s)
	}
}

// The kinds with the most values, and with the most atoms.
func TestKindTexts(t *testing.T) {
	for s, want := range map[string]int{
		"bit": 2, "(nat 1)": 1, "(nat 2)": 2, "(nat 3)": 3, "(nat 4)": 4, "(nat 5)": 5, "(nat 6)": 6,
		"(prod bit bit)": 4, "(prod (nat 1) (nat 1))": 1, "(prod (nat 6) (nat 6))": 36, "(prod (nat 6) (nat 5))": 30, "(prod (nat 3) (prod (nat 3) (nat 4)))": 36, "(prod (prod (nat 3) (nat 3)) (nat 4))": 36, "(prod bit (prod bit (prod bit bit)))": 16, "(prod bit (prod bit (prod bit (prod bit bit))))": 32, "(prod (nat 5) (prod (nat 6) (nat 1)))": 30,
		"(fun bit bit)": 4, "(fun bit (nat 3))": 9, "(fun (nat 3) bit)": 8, "(fun bit (nat 6))": 36, "(fun (nat 5) bit)": 32, "(fun (nat 3) (nat 3))": 27, "(fun (nat 1) (nat 6))": 6, "(fun (nat 6) (nat 1))": 1, "(fun (nat 1) (prod (nat 6) (nat 6)))": 36, "(fun (prod (nat 6) (nat 6)) (nat 1))": 1, "(fun (prod (nat 6) (nat 6)) (fun (prod (nat 6) (nat 6)) (nat 1)))": 1, "(fun (prod bit bit) bit)": 16, "(fun (prod bit bit) (nat 2))": 16, "(fun bit (prod bit (nat 3)))": 36, "(fun bit (fun bit bit))": 16, "(fun (nat 1) (fun bit (nat 6)))": 36, "(fun bit (fun (nat 1) (nat 6)))": 36, "(fun bit (fun (nat 6) (nat 1)))": 1,
		"(prod (fun bit bit) (fun bit bit))": 16, "(prod (fun (nat 1) bit) (fun bit (nat 4)))": 32, "(fun bit (prod (fun bit (nat 1)) (fun (nat 1) (nat 6))))": 36, "(fun (prod bit (nat 1)) (prod (fun (nat 1) bit) (nat 3)))": 36,
		chain(4, "bit"): 2, chain(4, "(nat 6)"): 6, chain(4, "(prod bit bit)"): 4, chain(4, "(fun bit bit)"): 4, chain(3, "(prod (nat 6) (nat 6))"): 36, "(prod " + chain(2, "bit") + " " + chain(2, "bit") + ")": 4, "(fun " + chain(2, "bit") + " " + chain(2, "bit") + ")": 4, "(fun bit " + chain(3, "(fun bit bit)") + ")": 16, "(fun " + chain(3, "(prod bit bit)") + " bit)": 16, "(fun (nat 1) (fun (nat 1) (fun (nat 1) (fun (nat 1) (prod bit bit)))))": 4, "(fun (nat 6) (fun (nat 6) (fun (nat 6) (fun (nat 6) (nat 1)))))": 1,
	} {
		if got := impl.KindCount(s); got != want || !impl.KindValid(s) {
			t.Errorf("KindCount returns %d for %q, not %d", got, s, want)
		}
	}
}

// Texts that are changed a bit are kinds, or not, by splitting them.
func TestKindChanged(t *testing.T) {
	valid, invalid := 0, 0
	for _, s := range []string{"bit", "(nat 3)", "(prod bit (nat 2))", "(fun (nat 3) bit)", "(fun bit (fun (nat 2) bit))", "(prod (fun bit bit) (nat 6))", chain(4, "(nat 2)"), chain(4, "(fun bit bit)"), "(fun (prod (nat 6) (nat 6)) (nat 1))"} {
		for i := range s {
			for _, c := range []string{"", " ", "(", ")", "b", "bit", "nat", "0", "1", "2", "6", "7", "prod", "fun", "(nat 1)", " bit", "bit ", "(prod bit ", "(fun bit "} {
				for _, changed := range []string{s[:i] + c + s[i:], s[:i] + c + s[i+1:], s[:i] + c + s[min(i+3, len(s)):], s[:i] + c + s[min(i+4, len(s)):]} {
					if k := kindByText(changed); k == nil {
						invalid++
						checkNoKind(t, changed)
					} else if got := impl.KindCount(changed); got != k.kindCount() || !impl.KindValid(changed) {
						t.Errorf("KindCount returns %d for %q, not %d", got, changed, k.kindCount())
					} else {
						valid++
					}
				}
			}
		}
	}
	if valid < 500 || invalid < 5000 {
		t.Errorf("%d texts are kinds, and %d are none", valid, invalid)
	}
}

// Promise 59.
func TestKindCount(t *testing.T) {
	kinds, none := 0, 0
	for _, s := range slices.Concat(kindsUpTo(8), mixedKinds(500)) {
		count := kindByText(s).kindCount()
		if got := impl.KindCount(s); got != count || got < 1 || got > 36 || !impl.KindValid(s) {
			t.Errorf("KindCount returns %d for %q, not %d", got, s, count)
		}
		for text, want := range map[string]int{"(prod " + s + " bit)": 2 * count, "(prod bit " + s + ")": 2 * count, "(fun bit " + s + ")": count * count, "(fun (nat 1) " + s + ")": count, "(prod (nat 6) " + s + ")": 6 * count, "(fun (nat 3) " + s + ")": count * count * count, "(fun " + s + " (nat 1))": 1} {
			if kindByText(text) == nil {
				want = -1
				none++
			} else {
				kinds++
			}
			if got := impl.KindCount(text); got != want || impl.KindValid(text) != (want > 0) {
				t.Errorf("KindCount returns %d for %q, not %d", got, text, want)
			}
		}
	}
	if kinds < 3000 || none < 2000 {
		t.Errorf("%d texts are kinds, and %d are none", kinds, none)
	}
}

func TestKindValueTexts(t *testing.T) {
	pairOf := func(terms ...string) string {
		text := terms[len(terms)-1]
		for _, s := range slices.Backward(terms[:len(terms)-1]) {
			text = pairText(s, text)
		}
		return text
	}
	two, five := numeralText(2), numeralText(5)
	not := pairText(falseText, "k")
	// It makes the pair of something and the same.
	both := app("s", app("s", app("k", "s"), app("s", app("k", app("s", identity)), "k")), "k")
	for _, c := range []struct {
		s, r string
		want int
	}{
		{"bit", "k", 1}, {"bit", falseText, 0}, {"bit", app(identity, "k"), 1}, {"bit", app("k", falseText, "s"), 0}, {"bit", "s", -1}, {"bit", identity, -1}, {"bit", "(k k)", -1}, {"bit", endless, -1}, {"bit", growing, -1}, {"bit", numeralText(1), -1},
		{"(nat 1)", identity, 0}, {"(nat 1)", numeralText(1), -1}, {"(nat 2)", numeralText(1), 1}, {"(nat 2)", two, -1}, {"(nat 3)", two, 2}, {"(nat 3)", numeralText(3), -1}, {"(nat 5)", five, -1}, {"(nat 6)", five, 5}, {"(nat 6)", numeralText(6), -1}, {"(nat 6)", numeralText(60), -1}, {"(nat 6)", numeralText(61), -1}, {"(nat 6)", "k", -1}, {"(nat 6)", falseText, -1}, {"(nat 6)", app(succText, two), 3}, {"(nat 3)", app(succText, two), -1}, {"(nat 6)", app(identity, identity), 0}, {"(nat 6)", pairText("k", identity), -1},
		{"(prod bit bit)", pairText("k", falseText), 2}, {"(prod bit bit)", pairText(falseText, "k"), 1}, {"(prod bit bit)", pairText("k", "k"), 3}, {"(prod bit bit)", pairText(falseText, falseText), 0}, {"(prod bit bit)", "k", -1}, {"(prod bit bit)", app("k", "k"), 3}, {"(prod bit bit)", pairText("k", "s"), -1}, {"(prod bit bit)", pairText("s", "k"), -1}, {"(prod bit bit)", pairText("k", endless), -1}, {"(prod bit bit)", pairText(endless, "k"), -1},
		{"(prod bit (nat 3))", pairText("k", two), 5}, {"(prod bit (nat 3))", pairText(falseText, two), 2}, {"(prod (nat 3) bit)", pairText(two, falseText), 4}, {"(prod (nat 6) (nat 6))", pairText(five, five), 35}, {"(prod (nat 6) (nat 5))", pairText(five, five), -1}, {"(prod (nat 5) (nat 6))", pairText(five, five), -1}, {"(prod (nat 6) (nat 5))", pairText(five, two), 27}, {"(prod (nat 3) (nat 4))", pairText(numeralText(1), two), 6}, {"(prod (nat 3) (nat 4))", identity, -1}, {"(prod (prod bit (nat 3)) bit)", pairText(pairText("k", two), falseText), 10}, {"(prod bit (prod (nat 3) bit))", pairOf("k", two, falseText), 10}, {"(prod bit (prod (nat 3) (nat 4)))", pairOf("k", two, numeralText(3)), 23}, {"(prod bit (prod (nat 3) (nat 4)))", pairText(pairText("k", two), numeralText(3)), -1},
		{"(fun bit bit)", identity, 2}, {"(fun bit bit)", not, 1}, {"(fun bit bit)", app("k", "k"), 3}, {"(fun bit bit)", app("k", falseText), 0}, {"(fun bit bit)", "k", -1}, {"(fun bit bit)", "s", -1}, {"(fun bit bit)", app("s", identity, identity), -1}, {"(fun bit bit)", endless, -1}, {"(fun bit bit)", app("k", endless), -1}, {"(fun bit bit)", app("k", two), -1},
		{"(fun bit (nat 3))", pairText(two, identity), 6}, {"(fun bit (nat 3))", pairText(identity, two), 2}, {"(fun bit (nat 3))", pairText(two, numeralText(1)), 7}, {"(fun bit (nat 6))", pairText(two, five), 17}, {"(fun bit (nat 6))", app("k", five), 35}, {"(fun bit (nat 5))", pairText(two, five), -1}, {"(fun bit (nat 5))", pairText(five, two), -1},
		{"(fun (nat 3) bit)", firstText, 1}, {"(fun (nat 5) bit)", firstText, 1}, {"(fun (nat 1) bit)", firstText, 1}, {"(fun (nat 2) bit)", app("k", "k"), 3}, {"(fun (nat 3) (nat 3))", identity, 21}, {"(fun (nat 3) (nat 2))", identity, -1}, {"(fun (nat 2) (nat 3))", identity, 3}, {"(fun (nat 3) (nat 3))", predData, 9}, {"(fun (nat 3) (nat 2))", predData, 4}, {"(fun (nat 3) (nat 1))", predData, -1}, {"(fun bit (nat 6))", predData, -1}, {"(fun (nat 2) (nat 3))", succText, 7}, {"(fun (nat 2) (nat 2))", succText, -1}, {"(fun (nat 6) (nat 1))", app("k", identity), 0}, {"(fun (nat 6) (nat 1))", identity, -1},
		{"(fun (prod bit bit) bit)", firstText, 12}, {"(fun (prod bit bit) bit)", secondText, 10}, {"(fun (prod bit bit) bit)", app("k", falseText), 0}, {"(fun (prod bit bit) bit)", identity, -1}, {"(fun (prod (nat 1) bit) bit)", secondText, 2}, {"(fun (prod (nat 1) (nat 3)) (nat 3))", secondText, 21}, {"(fun (prod (nat 3) (nat 1)) (nat 3))", firstText, 21}, {"(fun bit (prod bit bit))", both, 12}, {"(fun (nat 2) (prod (nat 2) (nat 3)))", both, 24}, {"(fun (nat 2) (prod (nat 1) (nat 2)))", both, -1}, {"(fun bit (prod bit (nat 1)))", app("k", pairText("k", identity)), 3},
		{"(fun bit (fun bit bit))", "k", 12}, {"(fun bit (fun bit bit))", app("k", identity), 10}, {"(fun bit (fun bit bit))", pairText("k", identity), -1}, {"(fun bit (fun bit bit))", pairText(identity, not), 9}, {"(fun bit (fun bit bit))", pairText(not, identity), 6}, {"(fun (nat 1) (fun (nat 2) (nat 3)))", app("k", succText), 7}, {"(fun (nat 1) (fun bit (nat 3)))", app("k", pairText(two, identity)), 6},
		{"(prod (fun bit bit) (fun bit bit))", pairText(identity, not), 9}, {"(prod (fun bit bit) bit)", pairText(not, "k"), 3}, {"(prod bit (fun bit (nat 3)))", pairText("k", pairText(two, identity)), 15},
	} {
		got, ok := impl.KindValue(c.s, c.r)
		if ok != (c.want >= 0) || got != max(c.want, 0) {
			t.Errorf("KindValue returns %d for %q and %q, not %d", got, c.s, c.r, c.want)
		}
	}
}

// valueTerms are closed terms of which many have values.
func valueTerms() []string {
	list := slices.Concat(termsUpTo(4, []string{"k", "s"}), candidatesByText(5)[:120], []string{identity, falseText, firstText, secondText, succText, predData, endless, growing, app("k", endless), app("k", predData)})
	data := []string{"k", falseText, identity, numeralText(1), numeralText(2), numeralText(5), app("k", "k"), app("k", identity), pairText("k", identity)}
	for _, r := range data {
		list = append(list, app("k", app("k", r)), app("k", r), app(identity, r))
		for _, q := range data {
			list = append(list, pairText(r, q), app("k", pairText(r, q)), pairText(pairText(r, q), r), pairText(q, pairText(r, q)))
		}
	}
	return list
}

// Promise 60, and tables.
func TestKindValue(t *testing.T) {
	values, not := 0, 0
	terms := valueTerms()
	for _, s := range append(kindsUpTo(5), mixedKinds(20)...) {
		k := kindByText(s)
		for _, r := range terms {
			want, has := k.valueOf(r)
			got, ok := impl.KindValue(s, r)
			if ok != has || ok && got != want || !ok && got != 0 {
				t.Fatalf("KindValue returns %d, %t for %q and %q, not %d, %t", got, ok, s, r, want, has)
			}
			row := []int(nil)
			if k.head() == "fun" {
				row, _ = k.tableOf(r)
			}
			if x, ok := impl.KindTable(s, r); ok != (row != nil) || !slices.Equal(x, row) {
				t.Fatalf("KindTable returns %v for %q and %q, not %v", x, s, r, row)
			}
			if !ok {
				not++
				continue
			}
			values++
			if got >= impl.KindCount(s) {
				t.Errorf("KindValue returns %d for %q", got, s)
			}
			if standard, ok := impl.KindStandard(s, got); ok && !impl.KindEqual(s, r, standard) && wordsByText(s) < 8 {
				t.Errorf("%q has another value of %q than its standard term", r, s)
			}
		}
	}
	if values < 3000 || not < 10000 {
		t.Errorf("KindValue succeeds %d times, and fails %d times", values, not)
	}
}

func TestKindValueFails(t *testing.T) {
	for _, s := range []string{"bit", "(nat 1)", "(nat 6)", "(prod bit bit)", "(fun bit bit)", "(fun (nat 3) (nat 1))"} {
		for _, r := range noClosed() {
			if v, ok := impl.KindValue(s, r); ok || v != 0 {
				t.Errorf("KindValue returns %d for %q and %q", v, s, brief(r))
			}
			if x, ok := impl.KindTable(s, r); ok || len(x) > 0 {
				t.Errorf("KindTable returns %v for %q and %q", x, s, brief(r))
			}
			for _, q := range []string{r, "k", identity, app("k", identity)} {
				if impl.KindEqual(s, r, q) || impl.KindEqual(s, q, r) {
					t.Errorf("KindEqual holds for %q and %q in %q", brief(r), brief(q), s)
				}
			}
		}
	}
}

// lastTaken returns the last number of a range up to which something holds. Both
// ways of asking must tell the same.
func lastTaken(t *testing.T, least, most int, one, two func(n int) bool) int {
	t.Helper()
	last := least - 1
	for n := least; n <= most; n++ {
		if one(n) != two(n) {
			t.Errorf("for %d there is %t, not %t", n, one(n), two(n))
		}
		if one(n) && n == last+1 {
			last = n
		}
	}
	return last
}

// What is asked for a value has to be a term, and to come to a normal one.
func TestKindValueLimits(t *testing.T) {
	large := func(atoms int) string { return app("k", "k", flat(atoms-2, "s")) }
	deep := func(depth int) string { return app("k", "k", nestedK(depth-1)) }
	for _, c := range []struct {
		s    string
		make func(n int) string
		last int
	}{
		{"bit", large, 3000}, {"(fun bit bit)", func(n int) string { return app("k", large(n-1)) }, 2996}, {"(fun (nat 1) bit)", func(n int) string { return app("k", large(n-1)) }, 2997}, {"(fun (nat 3) bit)", func(n int) string { return app("k", large(n-1)) }, 2975}, {"(fun (prod bit bit) bit)", func(n int) string { return app("k", large(n-1)) }, 2985}, {"(fun (nat 6) (nat 1))", func(n int) string { return app("k", app("k", identity, flat(n-5, "s"))) }, 2942},
		{"(fun bit (fun bit bit))", func(n int) string { return app("k", app("k", large(n-2))) }, 2992},
		// On the way there are several of the term.
		{"(prod bit bit)", func(n int) string { return app("k", large(n-1)) }, 997}, {"(prod bit (fun bit bit))", func(n int) string { return pairText("k", app("k", large(n-9))) }, 595}, {"(fun bit (prod bit bit))", func(n int) string { return app("k", app("k", large(n-2))) }, 993},
	} {
		k := kindByText(c.s)
		got := lastTaken(t, c.last-12, c.last+12, func(n int) bool { _, ok := impl.KindValue(c.s, c.make(n)); return ok }, func(n int) bool { _, ok := k.valueOf(c.make(n)); return ok })
		if got != c.last || atomsByText(c.make(500)) != 500 {
			t.Errorf("KindValue for %q takes terms of up to %d atoms, not %d", c.s, got, c.last)
		}
	}
	for _, c := range []struct {
		s    string
		make func(n int) string
		last int
	}{
		{"bit", deep, 1500}, {"(fun bit bit)", func(n int) string { return app("k", deep(n)) }, 1498}, {"(fun bit (fun bit bit))", func(n int) string { return app("k", app("k", deep(n))) }, 1496},
	} {
		k := kindByText(c.s)
		if got := lastTaken(t, 1490, 1502, func(n int) bool { _, ok := impl.KindValue(c.s, c.make(n)); return ok }, func(n int) bool { _, ok := k.valueOf(c.make(n)); return ok }); got != c.last {
			t.Errorf("KindValue for %q takes terms of up to %d parentheses, not %d", c.s, got, c.last)
		}
	}
	for _, c := range []struct {
		s    string
		make func(steps int) string
		last int
	}{
		{"bit", func(n int) string { return slowClosed(t, n) }, 6000}, {"(fun bit bit)", func(n int) string { return app("k", slowClosed(t, n)) }, 5999}, {"(fun bit (fun bit bit))", func(n int) string { return app("k", app("k", slowClosed(t, n))) }, 5998}, {"(fun (nat 2) (fun (nat 1) bit))", func(n int) string { return app("k", app("k", slowClosed(t, n))) }, 5998},
	} {
		k := kindByText(c.s)
		if got := lastTaken(t, 5990, 6002, func(n int) bool { _, ok := impl.KindValue(c.s, c.make(n)); return ok }, func(n int) bool { _, ok := k.valueOf(c.make(n)); return ok }); got != c.last {
			t.Errorf("KindValue for %q takes terms of up to %d steps, not %d", c.s, got, c.last)
		}
	}
}

func TestKindStandardTexts(t *testing.T) {
	isFalse := pairText(falseText, "k")
	always := app("k", "k")
	// isAtMost tells whether a numeral is at most n.
	isAtMost := []string{firstText, app("s", app("k", firstText), predData), app("s", app("k", firstText), app("s", app("k", predData), predData))}
	both := func(one, two string) string {
		return app("s", app("s", app("s", app("k", one), firstText), app("s", app("k", two), secondText)), app("k", falseText))
	}
	choice := func(test, m, u string) string { return app("s", app("s", test, app("k", m)), u) }
	one, two := numeralText(1), numeralText(2)
	for _, c := range []struct {
		s    string
		v    int
		want string
	}{
		{"bit", 0, falseText}, {"bit", 1, "k"}, {"(nat 1)", 0, identity}, {"(nat 3)", 0, identity}, {"(nat 3)", 2, two}, {"(nat 6)", 5, numeralText(5)}, {"(nat 6)", 3, numeralText(3)},
		{"(prod bit bit)", 0, pairText(falseText, falseText)}, {"(prod bit bit)", 1, pairText(falseText, "k")}, {"(prod bit bit)", 2, pairText("k", falseText)}, {"(prod bit bit)", 3, pairText("k", "k")}, {"(prod (nat 2) (nat 3))", 5, pairText(one, two)}, {"(prod (nat 3) (nat 2))", 4, pairText(two, identity)}, {"(prod (nat 3) (nat 2))", 1, pairText(identity, one)}, {"(prod bit (prod bit (nat 3)))", 8, pairText("k", pairText(falseText, two))}, {"(prod (prod bit (nat 3)) bit)", 10, pairText(pairText("k", two), falseText)}, {"(prod (fun (nat 1) bit) bit)", 2, pairText(app("k", "k"), falseText)}, {"(prod bit (fun (nat 1) bit))", 2, pairText("k", app("k", falseText))},
		{"(fun (nat 1) bit)", 0, app("k", falseText)}, {"(fun (nat 1) bit)", 1, app("k", "k")}, {"(fun (nat 1) (nat 6))", 4, app("k", numeralText(4))}, {"(fun (prod (nat 1) (nat 1)) bit)", 1, app("k", "k")},
		{"(fun bit bit)", 0, choice(isFalse, falseText, app("k", falseText))}, {"(fun bit bit)", 1, choice(isFalse, "k", app("k", falseText))}, {"(fun bit bit)", 2, choice(isFalse, falseText, app("k", "k"))}, {"(fun bit bit)", 3, choice(isFalse, "k", app("k", "k"))}, {"(fun bit (nat 3))", 5, choice(isFalse, two, app("k", one))}, {"(fun bit (prod bit (nat 3)))", 35, choice(isFalse, pairText("k", two), app("k", pairText("k", two)))},
		{"(fun (nat 2) bit)", 1, choice(isAtMost[0], "k", app("k", falseText))}, {"(fun (nat 3) bit)", 4, choice(isAtMost[0], falseText, choice(isAtMost[1], falseText, app("k", "k")))}, {"(fun (nat 3) bit)", 2, choice(isAtMost[0], falseText, choice(isAtMost[1], "k", app("k", falseText)))}, {"(fun (nat 3) (nat 3))", 5, choice(isAtMost[0], two, choice(isAtMost[1], one, app("k", identity)))}, {"(fun (nat 4) bit)", 9, choice(isAtMost[0], "k", choice(isAtMost[1], falseText, choice(isAtMost[2], falseText, app("k", "k"))))},
		{"(fun (prod bit bit) bit)", 6, choice(both(isFalse, isFalse), falseText, choice(both(isFalse, always), "k", choice(both(always, isFalse), "k", app("k", falseText))))}, {"(fun (prod bit (nat 1)) bit)", 1, choice(both(isFalse, always), "k", app("k", falseText))}, {"(fun (prod (nat 1) bit) bit)", 2, choice(both(always, isFalse), falseText, app("k", "k"))}, {"(fun (prod (nat 2) bit) (nat 1))", 0, choice(both(isAtMost[0], isFalse), identity, choice(both(isAtMost[0], always), identity, choice(both(always, isFalse), identity, app("k", identity))))}, {"(fun (prod (nat 1) (nat 3)) bit)", 5, choice(both(always, isAtMost[0]), "k", choice(both(always, isAtMost[1]), falseText, app("k", "k")))},
		// Here the last value of a product within another one has no test but the one that always holds.
		{"(fun (prod (prod (nat 1) bit) bit) (nat 1))", 0, choice(both(both(always, isFalse), isFalse), identity, choice(both(both(always, isFalse), always), identity, choice(both(always, isFalse), identity, app("k", identity))))}, {"(fun (prod bit (prod bit (nat 1))) (nat 1))", 0, choice(both(isFalse, both(isFalse, always)), identity, choice(both(isFalse, always), identity, choice(both(always, both(isFalse, always)), identity, app("k", identity))))},
		{"(fun bit (fun (nat 1) bit))", 1, choice(isFalse, app("k", "k"), app("k", app("k", falseText)))}, {"(fun (nat 1) (fun bit bit))", 1, app("k", choice(isFalse, "k", app("k", falseText)))}, {"(fun bit (fun bit bit))", 9, choice(isFalse, choice(isFalse, "k", app("k", falseText)), app("k", choice(isFalse, falseText, app("k", "k"))))}, {"(fun bit (prod (fun (nat 1) bit) bit))", 6, choice(isFalse, pairText(app("k", "k"), falseText), app("k", pairText(app("k", falseText), "k")))},
	} {
		if got, ok := impl.KindStandard(c.s, c.v); !ok || got != c.want {
			t.Errorf("KindStandard returns %q for %d of %q, not %q", got, c.v, c.s, c.want)
		}
	}
}

// Promises 58 and 61.
func TestKindStandard(t *testing.T) {
	good, large, slow := 0, 0, 0
	for _, s := range slices.Concat(kindsUpTo(7), kindsOf(8)[:300], mixedKinds(120)) {
		k := kindByText(s)
		small := wordsByText(s) <= 7
		for v := range k.kindCount() {
			if v > 3 && !small && v < k.kindCount()-2 {
				continue
			}
			want := k.standardOf(v)
			got, ok := impl.KindStandard(s, v)
			if fits := impl.TermValid(want); ok != fits || ok && got != want || !ok && got != "" {
				t.Fatalf("KindStandard returns %q for %d of %q, not %q", brief(got), v, s, brief(want))
			}
			if !ok {
				large++
				continue
			}
			good++
			if !impl.TermClosed(got) {
				t.Errorf("KindStandard returns %q for %d of %q", got, v, s)
			}
			if value, ok := impl.KindValue(s, got); !ok && !small {
				slow++
			} else if !ok || value != v {
				t.Errorf("KindValue returns %d for the standard term of %d of %q", value, v, s)
			}
		}
	}
	if good < 5000 || large < 1 || large > 50 || slow > 50 {
		t.Errorf("KindStandard succeeds %d times, of which %d have no value, and fails %d times", good, slow, large)
	}
}

func TestKindStandardFails(t *testing.T) {
	for s, count := range map[string]int{"bit": 2, "(nat 1)": 1, "(nat 6)": 6, "(prod bit (nat 3))": 6, "(fun bit (nat 6))": 36, "(fun (nat 6) (nat 1))": 1, "(prod (nat 6) (nat 6))": 36} {
		for _, v := range []int{-1, -2, -36, count, count + 1, 2 * count, 100, math.MinInt, math.MaxInt, math.MaxInt - count, 1 << 32} {
			if got, ok := impl.KindStandard(s, v); ok || got != "" {
				t.Errorf("KindStandard returns %q for %d of %q", got, v, s)
			}
			if got, ok := impl.KindFind(s, v, 5); ok || got != "" {
				t.Errorf("KindFind returns %q for %d of %q", got, v, s)
			}
		}
		if _, ok := impl.KindStandard(s, count-1); !ok {
			t.Errorf("KindStandard fails for the last value of %q", s)
		}
	}
}

// Standard terms of just 3000 atoms, of less and of more.
func TestKindStandardLimit(t *testing.T) {
	for _, c := range []struct {
		s        string
		v, atoms int
	}{
		{"(fun (prod bit (prod bit (nat 6))) (fun (nat 2) (nat 1)))", 0, 3000}, {"(fun (prod (prod (nat 6) bit) bit) (fun (nat 2) (nat 1)))", 0, 3000}, {"(prod bit (prod bit (fun (nat 4) (fun (nat 5) (fun (nat 4) (nat 1))))))", 0, 2999}, {"(prod (nat 2) (fun (nat 4) (fun (nat 5) (fun (nat 4) (nat 1)))))", 1, 2998}, {"(fun (nat 4) (fun (nat 3) (fun (nat 2) (fun (nat 4) (nat 1)))))", 0, 3001}, {"(fun bit (fun bit (prod (nat 2) (fun (nat 5) (fun (nat 4) (nat 1))))))", 3, 2990}, {"(fun bit (fun bit (prod (nat 2) (fun (nat 5) (fun (nat 4) (nat 1))))))", 7, 3001}, {"(fun (nat 2) (fun (prod (nat 4) (nat 4)) (fun bit (nat 1))))", 0, 3002}, {"(prod (nat 3) (fun (nat 4) (fun (nat 5) (fun (nat 4) (nat 1)))))", 2, 3009}, {"(fun (prod (nat 5) (prod (nat 1) (nat 5))) (nat 1))", 0, 2968}, {"(fun (prod (nat 5) (nat 6)) (nat 1))", 0, 3222},
	} {
		want := kindByText(c.s).standardOf(c.v)
		if n := atomsByText(want); n != c.atoms {
			t.Errorf("the standard term of %d of %q has %d atoms by the rules, not %d", c.v, c.s, n, c.atoms)
		}
		got, ok := impl.KindStandard(c.s, c.v)
		if ok != (c.atoms <= 3000) || ok && got != want || !ok && got != "" {
			t.Errorf("KindStandard returns %q for %d of %q", brief(got), c.v, c.s)
		}
	}
	const largest = "(fun (prod (nat 6) (nat 6)) (fun (prod (nat 6) (nat 6)) (nat 1)))"
	if got, ok := impl.KindStandard(largest, 0); ok || got != "" {
		t.Errorf("KindStandard returns %q for 0 of %q", brief(got), largest)
	}
	if v, ok := impl.KindValue(largest, app("k", app("k", identity))); !ok || v != 0 {
		t.Errorf("KindValue returns %d for %q", v, largest)
	}
	if x, ok := impl.KindTable(largest, app("k", app("k", identity))); !ok || !slices.Equal(x, make([]int, 36)) {
		t.Errorf("KindTable returns %v for %q", x, largest)
	}
}

// Promise 62.
func TestKindEqual(t *testing.T) {
	equal, other, not := 0, 0, 0
	terms := append(candidatesByText(4), valueTerms()[200:]...)
	for _, s := range slices.Concat(kindsUpTo(4), []string{"(fun bit (nat 3))", "(fun (prod bit bit) bit)", "(fun bit (fun bit bit))", "(prod (fun bit bit) bit)"}) {
		k := kindByText(s)
		var found, none []string
		values := map[string]int{}
		for _, r := range terms {
			if v, ok := k.valueOf(r); ok {
				found = append(found, r)
				values[r] = v
			} else {
				none = append(none, r)
			}
		}
		for i, a := range found {
			for _, b := range []string{none[i%len(none)], none[(i*i+7)%len(none)]} {
				not++
				if impl.KindEqual(s, a, b) || impl.KindEqual(s, b, a) || impl.KindEqual(s, b, b) {
					t.Errorf("KindEqual holds for %q and %q in %q", a, b, s)
				}
			}
			for _, b := range found[:i+1] {
				want := values[a] == values[b]
				if impl.KindEqual(s, a, b) != want || impl.KindEqual(s, b, a) != want {
					t.Fatalf("KindEqual does not return %t for %q and %q in %q", want, a, b, s)
				}
				if !want {
					other++
					continue
				}
				equal++
				if with := "(prod " + s + " bit)"; impl.KindValid(with) && !impl.KindEqual(with, pairText(a, "k"), pairText(b, "k")) {
					t.Errorf("KindEqual does not hold for the pairs of %q and %q in %q", a, b, with)
				}
			}
		}
	}
	if equal < 3000 || other < 3000 || not < 500 {
		t.Errorf("KindEqual holds %d times, and does not %d times for terms with values and %d times for others", equal, other, not)
	}
	for _, c := range []struct {
		s, a, b string
		want    bool
	}{
		{"bit", "k", app(identity, "k"), true}, {"bit", "k", falseText, false}, {"bit", "s", "s", false}, {"(nat 2)", identity, app(predData, identity), true}, {"(nat 2)", numeralText(2), numeralText(2), false}, {"(nat 3)", numeralText(2), numeralText(2), true}, {"(nat 6)", falseText, falseText, false}, {"(nat 6)", identity, falseText, false},
		// They are not the same, but for the standard terms.
		{"(fun bit bit)", identity, app("s", "k", "s"), true}, {"(fun bit bit)", identity, pairText(falseText, "k"), false}, {"(fun (nat 3) bit)", firstText, app("s", firstText, app("k", "k")), false}, {"(fun (nat 3) (nat 3))", predData, app("s", app("k", identity), predData), true}, {"(fun (nat 1) (nat 1))", predData, identity, true}, {"(fun (nat 2) (nat 2))", predData, identity, false}, {"(fun bit bit)", endless, endless, false},
	} {
		if impl.KindEqual(c.s, c.a, c.b) != c.want || impl.KindEqual(c.s, c.b, c.a) != c.want {
			t.Errorf("KindEqual does not return %t for %q and %q in %q", c.want, c.a, c.b, c.s)
		}
	}
}

// Promise 63.
func TestKindFind(t *testing.T) {
	found, not := 0, 0
	for _, s := range append(kindsUpTo(5), "(fun (nat 3) (nat 3))", "(fun (prod bit bit) bit)", "(fun bit (fun bit bit))", "(prod (fun bit bit) bit)", chain(4, "(prod bit bit)")) {
		k := kindByText(s)
		first := map[int]string{}
		for size := 1; size <= 5; size++ {
			for _, r := range candidatesByText(size) {
				if v, ok := k.valueOf(r); ok && first[v] == "" {
					first[v] = r
				}
			}
		}
		for v := range k.kindCount() {
			for n := -1; n <= 6; n++ {
				want := first[v]
				if n < 0 || n > 5 || want != "" && atomsByText(want) > n {
					want = ""
				}
				got, ok := impl.KindFind(s, v, n)
				if got != want || ok != (want != "") {
					t.Fatalf("KindFind returns %q for %d of %q and %d, not %q", got, v, s, n, want)
				}
				if !ok {
					not++
					continue
				}
				found++
				if value, ok := impl.KindValue(s, got); !ok || value != v || impl.TermSize(got) > n {
					t.Errorf("KindFind returns %q for %d of %q and %d", got, v, s, n)
				}
			}
		}
	}
	if found < 200 || not < 1000 {
		t.Errorf("KindFind succeeds %d times, and fails %d times", found, not)
	}
	for _, c := range []struct {
		s    string
		v, n int
		want string
	}{
		{"bit", 1, 1, "k"}, {"bit", 1, 5, "k"}, {"bit", 1, 0, ""}, {"bit", 0, 3, ""}, {"bit", 0, 4, falseText}, {"bit", 0, 5, falseText}, {"(nat 1)", 0, 3, identity}, {"(nat 1)", 0, 2, ""}, {"(nat 2)", 1, 5, ""}, {"(fun bit bit)", 3, 2, "(k k)"}, {"(fun bit bit)", 2, 3, "((s k) k)"}, {"(fun bit bit)", 2, 2, ""}, {"(fun (nat 6) (nat 1))", 0, 4, "(k ((s k) k))"}, {"(prod bit bit)", 3, 2, "(k k)"}, {"(prod bit bit)", 3, 1, ""}, {"(prod bit bit)", 3, math.MaxInt, ""}, {"(prod bit bit)", 3, math.MinInt, ""}, {"(prod bit bit)", 3, 1 << 32, ""},
	} {
		if got, ok := impl.KindFind(c.s, c.v, c.n); got != c.want || ok != (c.want != "") {
			t.Errorf("KindFind returns %q for %d of %q and %d, not %q", got, c.v, c.s, c.n, c.want)
		}
	}
}

// Promise 64.
func TestKindTable(t *testing.T) {
	tables := 0
	for _, s := range slices.Concat(kindsUpTo(7), kindsOf(8)[:200], mixedKinds(60)) {
		k := kindByText(s)
		for v := range k.kindCount() {
			standard, ok := impl.KindStandard(s, v)
			if !ok {
				continue
			}
			_, has := impl.KindValue(s, standard)
			row, ok := impl.KindTable(s, standard)
			if k.head() != "fun" {
				if ok || len(row) > 0 {
					t.Errorf("KindTable returns %v for %q", row, s)
				}
				continue
			}
			if ok != has || ok && !slices.Equal(row, k.rows()[v]) {
				t.Errorf("KindTable returns %v for the standard term of %d of %q, not %v", row, v, s, k.rows()[v])
			}
			tables++
		}
	}
	if tables < 2000 {
		t.Errorf("KindTable succeeds %d times", tables)
	}
	for _, c := range []struct {
		s, r string
		want []int
	}{
		{"(fun bit bit)", identity, []int{0, 1}}, {"(fun bit bit)", pairText(falseText, "k"), []int{1, 0}}, {"(fun (nat 3) (nat 3))", predData, []int{0, 0, 1}}, {"(fun (nat 1) (nat 6))", app("k", numeralText(5)), []int{5}}, {"(fun (nat 5) bit)", firstText, []int{1, 0, 0, 0, 0}}, {"(fun (nat 6) (nat 1))", app("k", identity), make([]int, 6)}, {"(fun (prod (nat 1) (nat 3)) (nat 3))", secondText, []int{0, 1, 2}}, {"(fun (prod bit bit) bit)", firstText, []int{0, 0, 1, 1}}, {"(fun bit (fun bit bit))", "k", []int{0, 3}}, {"(fun (nat 1) (fun bit (nat 3)))", app("k", pairText(numeralText(2), identity)), []int{6}},
		{"(fun bit bit)", "k", nil}, {"bit", "k", nil}, {"(nat 1)", identity, nil}, {"(prod bit bit)", app("k", "k"), nil}, {"(prod (fun bit bit) bit)", pairText(identity, "k"), nil}, {"(prod bit (fun bit bit))", pairText("k", identity), nil}, {"(fun (nat 3) (nat 2))", identity, nil}, {"(fun bit bit)", endless, nil}, {"(fun bit bit)", "x", nil}, {"(fun bit bit)", app("k", "x"), nil}, {"(fun bit bit)", "", nil},
	} {
		if got, ok := impl.KindTable(c.s, c.r); ok != (c.want != nil) || !slices.Equal(got, c.want) {
			t.Errorf("KindTable returns %v for %q and %q, not %v", got, c.s, c.r, c.want)
		}
	}
}

// Results share no memory, and nothing is kept from one call to the next one.
func TestKindTableMemory(t *testing.T) {
	const s = "(fun (nat 3) (nat 3))"
	want := []int{0, 1, 2}
	one, _ := impl.KindTable(s, identity)
	two, _ := impl.KindTable(s, identity)
	_ = append(one, 7)
	_ = append(two[:2], 8)
	for i := range one {
		one[i] = 9
	}
	again, ok := impl.KindTable(s, identity)
	if !ok || !slices.Equal(again, want) || !slices.Equal(two, []int{0, 1, 8}) {
		t.Errorf("KindTable returns %v, and then %v", two, again)
	}
	done := make(chan int)
	for n := 1; n <= 6; n++ {
		go func() {
			v, _ := impl.KindValue("(fun (nat "+strconv.Itoa(n)+") (nat 1))", app("k", identity))
			x, _ := impl.KindTable("(fun (nat 1) (nat "+strconv.Itoa(n)+"))", app("k", numeralText(n-1)))
			done <- v*100 + x[0]*10 + len(x)
		}()
	}
	sum := 0
	for range 6 {
		sum += <-done
	}
	if sum != 156 {
		t.Errorf("the calls at the same time add up to %d", sum)
	}
}
