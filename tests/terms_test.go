package tests

import (
	"slices"
	"strings"
	"testing"

	"loop.example/realizers/impl"
)

// part is a part of a text that is a term: an atom, or an application of
// left to right. The tests step along texts, so that their idea of a redex owes
// nothing to the program's.
type part struct {
	left, right *part
	from, to    int
}

func (p *part) isAtom(text, atom string) bool {
	return p.left == nil && text[p.from:p.to] == atom
}

// parts reads a text that must be a term, and returns all parts of it, the
// whole last.
func parts(text string) []*part {
	var all []*part
	at := 0
	var read func() *part
	read = func() *part {
		p := &part{from: at}
		if text[at] == '(' {
			at++
			p.left = read()
			at++
			p.right = read()
			at++
		} else {
			for at < len(text) && text[at] != ' ' && text[at] != ')' {
				at++
			}
		}
		p.to = at
		all = append(all, p)
		return p
	}
	read()
	return all
}

// fired returns what a part becomes if it is a redex.
func fired(text string, p *part) (string, bool) {
	of := func(q *part) string { return text[q.from:q.to] }
	if p.left == nil || p.left.left == nil {
		return "", false
	}
	if p.left.left.isAtom(text, "k") {
		return of(p.left.right), true
	}
	if p.left.left.left != nil && p.left.left.left.isAtom(text, "s") {
		m, n, q := of(p.left.left.right), of(p.left.right), of(p.right)
		return "((" + m + " " + q + ") (" + n + " " + q + "))", true
	}
	return "", false
}

// stepByText replaces the redex that begins first, of two that begin at the
// same place the larger one.
func stepByText(text string) (string, bool) {
	var first *part
	var becomes string
	for _, p := range parts(text) {
		now, ok := fired(text, p)
		if !ok {
			continue
		}
		if first == nil || p.from < first.from || p.from == first.from && p.to > first.to {
			first, becomes = p, now
		}
	}
	if first == nil {
		return "", false
	}
	return text[:first.from] + becomes + text[first.to:], true
}

// namesByText returns the names of a text in the order in which each one
// stands first.
func namesByText(text string) []string {
	var names []string
	for _, word := range strings.FieldsFunc(text, func(c rune) bool { return strings.ContainsRune("() ", c) }) {
		if word != "k" && word != "s" && !slices.Contains(names, word) {
			names = append(names, word)
		}
	}
	return names
}

// atomsByText returns the number of atoms of a term.
func atomsByText(text string) int {
	return strings.Count(text, " ") + 1
}

func app(terms ...string) string {
	text := terms[0]
	for _, t := range terms[1:] {
		text = "(" + text + " " + t + ")"
	}
	return text
}

// allTerms returns the terms of a number of atoms, made of some atoms.
func allTerms(size int, atoms []string) []string {
	if size == 1 {
		return atoms
	}
	var list []string
	for n := 1; n < size; n++ {
		for _, left := range allTerms(n, atoms) {
			for _, right := range allTerms(size-n, atoms) {
				list = append(list, app(left, right))
			}
		}
	}
	return list
}

func termsUpTo(size int, atoms []string) []string {
	var list []string
	for n := 1; n <= size; n++ {
		list = append(list, allTerms(n, atoms)...)
	}
	return list
}

// mixedTerm returns a term of a number of atoms that follows from a seed alone.
func mixedTerm(size int, seed *uint32) string {
	*seed = *seed*1664525 + 1013904223
	high := int(*seed >> 16)
	if size == 1 {
		return []string{"k", "s", "k", "s", "x", "y", "z1", "u007"}[high%8]
	}
	left := 1 + high%(size-1)
	return app(mixedTerm(left, seed), mixedTerm(size-left, seed))
}

// mixedTerms returns terms of 6 to 30 atoms.
func mixedTerms(count int) []string {
	seed := uint32(1)
	var list []string
	for n := range count {
		list = append(list, mixedTerm(6+n%25, &seed))
	}
	return list
}

// flat returns a term of a number of atoms, all of them the same, with few
// parentheses within each other.
func flat(size int, atom string) string {
	if size == 1 {
		return atom
	}
	return app(flat(size/2, atom), flat(size-size/2, atom))
}

// nestedRight returns a normal term with a number of parentheses within each
// other, all of them at its end.
func nestedRight(depth int, last string) string {
	return strings.Repeat("(x ", depth) + last + strings.Repeat(")", depth)
}

// nestedLeft returns one with all of them at its start.
func nestedLeft(depth int, first string) string {
	return strings.Repeat("(", depth) + first + strings.Repeat(" x)", depth)
}

const identity = "((s k) k)"

// endless is a term that steps on and on but never grows much.
var endless = app("s", identity, identity, app("s", identity, identity))

// growing is a term that steps on until it is too large.
const growing = "(((((s s) s) (s s)) s) s)"

// slowTerm returns a term that comes to a normal one in just as many steps.
func slowTerm(t *testing.T, steps int) string {
	twice := app("s", app("s", app("k", "s"), "k"), identity)
	loop := app(twice, twice, twice, identity, "x")
	_, each, ok := impl.NormalOf(loop)
	if !ok || each != 210 {
		t.Fatalf("NormalOf takes %d steps for a term of 210", each)
	}
	text := "x"
	for range steps / each {
		text = app(text, loop)
	}
	for range steps % each {
		text = app(text, "((k x) y)")
	}
	return text
}

// noTerms are texts that are no terms, but for those that are too large.
func noTerms() []string {
	return []string{
		"", " ", "a", "t", "i", "K", "S", "X", "l", "r", "{", "1", "-1", "(", ")", "()", "( )", "(k)", "((k))",
		"k ", " k", "k k", "kk", "ks", "sx", "(k k", "k k)", "(kk)", "(k  k)", "( k k)", "(k k )", "(k k k)", "(k k) ", " (k k)",
		"(k k))", "((k k)", "(k k)(k k)", "(k k) k", "((k k) )", "(k\tk)", "(k\nk)", "(k k)\n", "[k k]", "(k,k)", "(k (k))",
		"u1234", "x0000", "xx", "xy", "x 1", "x1y", "1x", "x-1", "x+1", "x1 ", "xa", "k1", "s0", "t1", "(x1234 k)", "(k k1)",
		"x\x00", "\x00", "\xff", "x\xc3\xa4", "\xc3\xa4", "(k \xff)", "x\xd9\xa1",
	}
}

// largeNoTerms are texts that are no terms as they are too large, or would
// take more room than there is.
func largeNoTerms() []string {
	return []string{
		flat(impl.SizeMax+1, "k"), flat(2*impl.SizeMax, "x123"),
		nestedRight(1501, "x"), nestedLeft(1501, "x"), nestedRight(20000, "k"), nestedLeft(20000, "k"),
		strings.Repeat("(", 20000000), strings.Repeat("(k ", 10000000), strings.Repeat(")", 1000000), strings.Repeat("x", 1000000),
	}
}

// brief is a text as a message shows it.
func brief(text string) string {
	if len(text) > 300 {
		return text[:300] + "..."
	}
	return text
}
