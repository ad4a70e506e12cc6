package impl

import "strings"

// SizeMax is the greatest number of atoms of a term.
const SizeMax = 3000

// StepsMax is the greatest number of steps.
const StepsMax = 6000

// nestingMax is the greatest number of parentheses within each other.
const nestingMax = 1500

// term is a term. What the pointers behind it lead to is never changed, so
// that a step can share all that it does not replace.
type term interface {
	atoms() int
	// nesting is the number of parentheses within each other.
	nesting() int
	normal() bool
	// lacks is the number of arguments with which the term is a redex, or 0.
	lacks() int
	// fire fails unless the term is a redex with these arguments.
	fire(args []term) (term, bool)
	// step knows no limits: what it returns may be too large for a term.
	step() (term, bool)
	put(name string, by term) term
	listNames(list *nameList)
	write(text []byte) []byte
}

// leaf has what is the same for all atoms.
type leaf struct{}

func (leaf) atoms() int            { return 1 }
func (leaf) nesting() int          { return 0 }
func (leaf) normal() bool          { return true }
func (leaf) step() (term, bool)    { return nil, false }
func (leaf) listNames(_ *nameList) {}

// kLetter is the letter k.
type kLetter struct{ leaf }

func (k *kLetter) lacks() int { return 2 }

func (k *kLetter) fire(args []term) (term, bool) {
	if len(args) != k.lacks() {
		return nil, false
	}
	return args[0], true
}

func (k *kLetter) put(_ string, _ term) term { return k }

func (k *kLetter) write(text []byte) []byte { return append(text, 'k') }

// sLetter is the letter s.
type sLetter struct{ leaf }

func (s *sLetter) lacks() int { return 3 }

func (s *sLetter) fire(args []term) (term, bool) {
	if len(args) != s.lacks() {
		return nil, false
	}
	return apply(apply(args[0], args[2]), apply(args[1], args[2])), true
}

func (s *sLetter) put(_ string, _ term) term { return s }

func (s *sLetter) write(text []byte) []byte { return append(text, 's') }

// nameAtom is a name.
type nameAtom struct {
	leaf
	name string
}

func (n *nameAtom) lacks() int { return 0 }

func (n *nameAtom) fire(_ []term) (term, bool) { return nil, false }

func (n *nameAtom) put(name string, by term) term {
	if n.name == name {
		return by
	}
	return n
}

func (n *nameAtom) listNames(list *nameList) { list.add(n.name) }

func (n *nameAtom) write(text []byte) []byte { return append(text, n.name...) }

// application is (M N). It keeps what its parts tell of themselves: a term has
// to be measured behind each of its steps, and only the way down to the redex
// is made anew.
type application struct {
	function, argument term
	atomCount, depth   int
	lacking            int
	isNormal           bool
}

func apply(function, argument term) term {
	lacking := function.lacks()
	return &application{
		function:  function,
		argument:  argument,
		atomCount: function.atoms() + argument.atoms(),
		depth:     1 + max(function.nesting(), argument.nesting()),
		lacking:   max(lacking-1, 0),
		isNormal:  lacking != 1 && function.normal() && argument.normal(),
	}
}

func (a *application) atoms() int   { return a.atomCount }
func (a *application) nesting() int { return a.depth }
func (a *application) normal() bool { return a.isNormal }
func (a *application) lacks() int   { return a.lacking }

// fire hands the arguments down the spine to its head, which alone knows what
// becomes of them.
func (a *application) fire(args []term) (term, bool) {
	return a.function.fire(append([]term{a.argument}, args...))
}

// step looks at the whole first, then at the function and then at the
// argument: in this order their texts begin, and of no two at the same place,
// as each application has a parenthesis of its own.
func (a *application) step() (term, bool) {
	if a.isNormal {
		return nil, false
	}
	if a.function.lacks() == 1 {
		return a.function.fire([]term{a.argument})
	}
	if function, ok := a.function.step(); ok {
		return apply(function, a.argument), true
	}
	argument, ok := a.argument.step()
	if !ok {
		return nil, false
	}
	return apply(a.function, argument), true
}

func (a *application) put(name string, by term) term {
	return apply(a.function.put(name, by), a.argument.put(name, by))
}

func (a *application) listNames(list *nameList) {
	a.function.listNames(list)
	a.argument.listNames(list)
}

func (a *application) write(text []byte) []byte {
	text = a.function.write(append(text, '('))
	text = a.argument.write(append(text, ' '))
	return append(text, ')')
}

// nameList lists names in the order in which each one is added first.
type nameList struct {
	names []string
	known map[string]bool
}

func (l *nameList) add(name string) {
	if !l.known[name] {
		l.known[name] = true
		l.names = append(l.names, name)
	}
}

func namesOf(t term) []string {
	list := &nameList{known: map[string]bool{}}
	t.listNames(list)
	return list.names
}

func textOf(t term) string {
	return string(t.write(nil))
}

// fits reports whether a term keeps the limits of terms.
func fits(t term) bool {
	return t.atoms() <= SizeMax && t.nesting() <= nestingMax
}

// textReader reads a text from a place on.
type textReader struct {
	text string
	at   int
}

func (r *textReader) skip(c byte) bool {
	if r.ended() || r.text[r.at] != c {
		return false
	}
	r.at++
	return true
}

func (r *textReader) ended() bool { return r.at == len(r.text) }

// readWord reads up to the next parenthesis or space.
func (r *textReader) readWord() string {
	rest := r.text[r.at:]
	n := strings.IndexAny(rest, "() ")
	if n < 0 {
		n = len(rest)
	}
	r.at += n
	return rest[:n]
}

// termReader reads terms.
type termReader struct{ textReader }

func readTerm(s string) (term, bool) {
	r := &termReader{textReader{text: s}}
	t, ok := r.read(0)
	if !ok || !r.ended() || !fits(t) {
		return nil, false
	}
	return t, true
}

func readBoth(s, t string) (term, term, bool) {
	first, ok := readTerm(s)
	if !ok {
		return nil, nil, false
	}
	second, ok := readTerm(t)
	if !ok {
		return nil, nil, false
	}
	return first, second, true
}

func readClosed(s string) (term, bool) {
	t, ok := readTerm(s)
	if !ok || len(namesOf(t)) > 0 {
		return nil, false
	}
	return t, true
}

// read counts the parentheses around its place, as a text may have more of
// them than the stack has room for.
func (r *termReader) read(around int) (term, bool) {
	if around > nestingMax {
		return nil, false
	}
	if !r.skip('(') {
		return r.readAtom()
	}
	function, ok := r.read(around + 1)
	if !ok || !r.skip(' ') {
		return nil, false
	}
	argument, ok := r.read(around + 1)
	if !ok || !r.skip(')') {
		return nil, false
	}
	return apply(function, argument), true
}

func (r *termReader) readAtom() (term, bool) {
	if r.skip('k') {
		return &kLetter{}, true
	}
	if r.skip('s') {
		return &sLetter{}, true
	}
	n := nameLength(r.text[r.at:])
	if n == 0 {
		return nil, false
	}
	name := r.text[r.at : r.at+n]
	r.at += n
	return &nameAtom{name: name}, true
}

// nameLength returns the length of the longest name at the start of a text, or
// 0 if there is none.
func nameLength(s string) int {
	if s == "" || s[0] < 'u' || s[0] > 'z' {
		return 0
	}
	n := 1
	for n < len(s) && n <= 3 && s[n] >= '0' && s[n] <= '9' {
		n++
	}
	return n
}

func nameValid(s string) bool {
	return s != "" && nameLength(s) == len(s)
}

// stepTerm fails if there is no step or the term behind it is too large.
func stepTerm(t term) (term, bool) {
	next, ok := t.step()
	if !ok || !fits(next) {
		return nil, false
	}
	return next, true
}

func stepTerms(t term, n int) (term, int) {
	for count := range n {
		next, ok := stepTerm(t)
		if !ok {
			return t, count
		}
		t = next
	}
	return t, n
}

func normalTerm(t term) (term, int, bool) {
	last, count := stepTerms(t, StepsMax)
	return last, count, last.normal()
}

// normalFitting returns the normal term of what may be too large for a term.
func normalFitting(t term) (term, bool) {
	if !fits(t) {
		return nil, false
	}
	normal, _, ok := normalTerm(t)
	return normal, ok
}

// applyNormal returns the normal term to which (M N) comes, if this is a term.
func applyNormal(function, argument term) (term, bool) {
	return normalFitting(apply(function, argument))
}

func readNormal(s string) (term, bool) {
	t, ok := readTerm(s)
	if !ok {
		return nil, false
	}
	normal, _, ok := normalTerm(t)
	return normal, ok
}

// TermValid reports whether a text is a term.
func TermValid(s string) bool {
	_, ok := readTerm(s)
	return ok
}

// TermSize returns the number of atoms of a term, or -1 if the text is none.
func TermSize(s string) int {
	t, ok := readTerm(s)
	if !ok {
		return -1
	}
	return t.atoms()
}

// TermNames returns the names of a term in the order in which each one stands first, and true.
func TermNames(s string) ([]string, bool) {
	t, ok := readTerm(s)
	if !ok {
		return nil, false
	}
	return namesOf(t), true
}

// TermClosed reports whether a text is a closed term.
func TermClosed(s string) bool {
	_, ok := readClosed(s)
	return ok
}

// TermPut returns a term with a term put for a name, and true.
func TermPut(s string, name string, by string) (string, bool) {
	t, putIn, ok := readBoth(s, by)
	if !ok || !nameValid(name) {
		return "", false
	}
	result := t.put(name, putIn)
	if !fits(result) {
		return "", false
	}
	return textOf(result), true
}

// TermStep returns the term behind a step, and true.
func TermStep(s string) (string, bool) {
	t, ok := readTerm(s)
	if !ok {
		return "", false
	}
	next, ok := stepTerm(t)
	if !ok {
		return "", false
	}
	return textOf(next), true
}

// StepMany returns the term behind at most n steps, as many as there are (behind none the term as it stands), and their number, and true.
func StepMany(s string, n int) (string, int, bool) {
	t, ok := readTerm(s)
	if !ok || n < 0 || n > StepsMax {
		return "", 0, false
	}
	last, count := stepTerms(t, n)
	return textOf(last), count, true
}

// TermNormal reports whether a text is a term that is normal.
func TermNormal(s string) bool {
	t, ok := readTerm(s)
	return ok && t.normal()
}

// NormalOf returns the normal term to which a term comes within StepsMax steps, and their number, and true.
func NormalOf(s string) (string, int, bool) {
	t, ok := readTerm(s)
	if !ok {
		return "", 0, false
	}
	normal, count, ok := normalTerm(t)
	if !ok {
		return "", 0, false
	}
	return textOf(normal), count, true
}

// ApplyOf returns NormalOf of (M N) for two terms, without the number, and true.
func ApplyOf(s string, t string) (string, bool) {
	function, argument, ok := readBoth(s, t)
	if !ok {
		return "", false
	}
	normal, ok := applyNormal(function, argument)
	if !ok {
		return "", false
	}
	return textOf(normal), true
}

// TermEqual reports whether NormalOf of two terms succeeds and is the same.
func TermEqual(s string, t string) bool {
	first, _, ok := NormalOf(s)
	if !ok {
		return false
	}
	second, _, ok := NormalOf(t)
	return ok && first == second
}
