package term_test

import (
	"iter"
	"math"
	"slices"
	"strings"
	"testing"

	"vouchsafe/api"
	"vouchsafe/term"
)

func constant(name string) api.Term { return api.Term{Name: name} }

func variable(name string) api.Term { return api.Term{Var: true, Name: name} }

// atom lays the terms into the array one by one; n is told apart from their number.
func atom(says, pred string, n int, terms ...api.Term) api.Atom {
	a := api.Atom{Says: says, Pred: pred, N: n}
	for i, t := range terms {
		a.Args[i] = t
	}
	return a
}

// whole is an atom whose N is the number of its terms.
func whole(says, pred string, terms ...api.Term) api.Atom {
	return atom(says, pred, len(terms), terms...)
}

// P3.1: Term, with ordinary terms, the edges of spellings, and wrong ones.
func TestTerm(t *testing.T) {
	cases := []struct {
		term api.Term
		want bool
	}{
		{constant("a"), true}, {constant("42x"), true}, {constant("0"), true}, {constant("open_door"), true},
		{constant(strings.Repeat("a", api.MaxSpelling)), true},
		{constant(strings.Repeat("a", api.MaxSpelling+1)), false},
		{constant(""), false}, {constant("X"), false}, {constant("says"), false}, {constant("budget"), false},
		{constant("_a"), false}, {constant("a b"), false}, {constant("aB"), false}, {constant("é"), false},
		{variable("X"), true}, {variable("Xy_1"), true}, {variable("IF"), true}, {variable("V0"), true},
		{variable(strings.Repeat("X", api.MaxSpelling)), true},
		{variable(strings.Repeat("X", api.MaxSpelling+1)), false},
		{variable(""), false}, {variable("a"), false}, {variable("42x"), false}, {variable("says"), false},
		{variable("_X"), false}, {variable("X#1"), false}, {variable("X "), false},
		{api.Term{}, false},
	}
	for _, c := range cases {
		if got := term.Term(c.term); got != c.want {
			t.Errorf("Term(%+v) = %v", c.term, got)
		}
	}
}

// P3.1: Check, with valid atoms of each arity, and with each part wrong.
func TestCheck(t *testing.T) {
	a, x, bad := constant("a"), variable("X"), constant("A")
	long := strings.Repeat("a", api.MaxSpelling)
	cases := []struct {
		atom api.Atom
		want api.Errno
	}{
		{whole("bob", "open"), api.OK}, {whole("alice", "p", a, x), api.OK}, {whole("a", "p", a), api.OK},
		{whole("a", "p", x, x, x), api.OK}, {whole("a", "p", a, x, constant("9"), variable("Y")), api.OK},
		{whole(long, long, constant(long)), api.OK},

		{api.Atom{}, api.ErrText}, {whole("", "p"), api.ErrText}, {whole("Bob", "p"), api.ErrText},
		{whole("4a", "p"), api.ErrText}, {whole("says", "p"), api.ErrText}, {whole("a b", "p"), api.ErrText},
		{whole(long+"a", "p"), api.ErrText}, {whole("a", ""), api.ErrText}, {whole("a", "P"), api.ErrText},
		{whole("a", "4p"), api.ErrText}, {whole("a", "cansay"), api.ErrText}, {whole("a", long+"a"), api.ErrText},

		{atom("a", "p", -1), api.ErrLong}, {atom("a", "p", 5, a, a, a, a), api.ErrLong},
		{atom("a", "p", math.MinInt), api.ErrLong}, {atom("a", "p", math.MaxInt, a, a, a, a), api.ErrLong},
		{atom("a", "p", api.MaxArity, a, a, a, a), api.OK},

		{whole("a", "p", bad), api.ErrText}, {whole("a", "p", a, bad), api.ErrText},
		{whole("a", "p", a, a, bad), api.ErrText}, {whole("a", "p", a, a, a, bad), api.ErrText},
		{whole("a", "p", api.Term{}), api.ErrText}, {atom("a", "p", 3, a, x), api.ErrText},
		{whole("a", "p", variable("x")), api.ErrText}, {whole("a", "p", constant("if")), api.ErrText},

		{atom("a", "p", 0, a), api.ErrBad}, {atom("a", "p", 1, a, x), api.ErrBad},
		{atom("a", "p", 0, api.Term{}, api.Term{}, api.Term{}, a), api.ErrBad},
		{atom("a", "p", 3, a, a, a, a), api.ErrBad}, {atom("a", "p", 2, a, a, api.Term{Var: true}), api.ErrBad},
		{atom("a", "p", 2, a, a, api.Term{}, constant("a")), api.ErrBad},
		{atom("a", "p", 1, a, bad), api.ErrBad},
	}
	for _, c := range cases {
		if got := term.Check(c.atom); got != c.want {
			t.Errorf("Check(%+v) = %d, not %d", c.atom, got, c.want)
		}
	}
}

// P3.1: of several errors the first one, in the order of the promise.
func TestCheckOrder(t *testing.T) {
	bad := constant("A")
	cases := []struct {
		what string
		atom api.Atom
		want api.Errno
	}{
		{"Says before N", atom("A", "p", 5), api.ErrText},
		{"Pred before N", atom("a", "P", -1), api.ErrText},
		{"N before a term", atom("a", "p", 5, bad), api.ErrLong},
		{"N below 0 before a term that is not zero", atom("a", "p", -1, constant("a")), api.ErrLong},
		{"a term before those after it", atom("a", "p", 1, bad, constant("a")), api.ErrText},
		{"the last term before those after it", atom("a", "p", 3, constant("a"), constant("a"), bad, bad), api.ErrText},
		{"Pred before the terms after N", atom("a", "", 0, constant("a")), api.ErrText},
	}
	for _, c := range cases {
		if got := term.Check(c.atom); got != c.want {
			t.Errorf("%s: %d, not %d", c.what, got, c.want)
		}
	}
}

// P3.1: Ground looks at the first N terms, and at no others.
func TestGround(t *testing.T) {
	a, x := constant("a"), variable("X")
	cases := []struct {
		atom api.Atom
		want bool
	}{
		{whole("a", "p"), true}, {whole("a", "p", a), true}, {whole("a", "p", a, a, a, a), true},
		{whole("a", "p", x), false}, {whole("a", "p", a, x), false}, {whole("a", "p", x, a), false},
		{whole("a", "p", a, a, a, x), false},
		{atom("a", "p", 0, x), true}, {atom("a", "p", 1, a, x), true}, {atom("a", "p", 3, a, a, a, x), true},
		{atom("a", "p", -1, x, x, x, x), true}, {atom("a", "p", math.MinInt, x), true},
		{atom("a", "p", 5, a, a, a, a), true}, {atom("a", "p", 5, a, a, a, x), false},
		{atom("a", "p", math.MaxInt, a, a, a, x), false}, {atom("a", "p", 4, a), true},
		{api.Atom{}, true}, {whole("A", "", variable("")), false}, {whole("A", "", constant("X")), true},
		{whole("", "", variable("a")), false},
	}
	for _, c := range cases {
		if got := term.Ground(c.atom); got != c.want {
			t.Errorf("Ground(%+v) = %v", c.atom, got)
		}
	}
}

// P3.2: Vars and Consts, each name once, in the order of their first occurrence.
func TestNames(t *testing.T) {
	a, b, x, y := constant("a"), constant("b"), variable("X"), variable("Y")
	cases := []struct {
		atom   api.Atom
		vars   string // with blanks between
		consts string
	}{
		{whole("a", "p"), "", ""},
		{whole("a", "p", a, x), "X", "a"}, {whole("a", "p", x, a), "X", "a"},
		{whole("a", "p", y, x, y, x), "Y X", ""}, {whole("a", "p", b, a, b, a), "", "b a"},
		{whole("a", "p", y, b, x, a), "Y X", "b a"}, {whole("a", "p", x, b, x, b), "X", "b"},
		{whole("a", "p", x, y, y, x), "X Y", ""}, {whole("a", "p", a, a, a, b), "", "a b"},
		{atom("a", "p", 0, a, x), "", ""}, {atom("a", "p", 1, a, x), "", "a"}, {atom("a", "p", 3, a, x, b, y), "X", "a b"},
		{atom("a", "p", -1, a, x), "", ""}, {atom("a", "p", math.MinInt, a, x), "", ""},
		{atom("a", "p", 5, a, x, b, y), "X Y", "a b"}, {atom("a", "p", math.MaxInt, a, x, b, y), "X Y", "a b"},
		{whole("A", "", variable("a"), constant("a")), "a", "a"},
		{whole("A", "", constant("X"), variable("X")), "X", "X"},
	}
	for _, c := range cases {
		if got := term.Vars(c.atom); !slices.Equal(got, strings.Fields(c.vars)) {
			t.Errorf("Vars(%+v) = %q", c.atom, got)
		}
		if got := term.Consts(c.atom); !slices.Equal(got, strings.Fields(c.consts)) {
			t.Errorf("Consts(%+v) = %q", c.atom, got)
		}
	}
}

// P3.2: a name may be empty in an atom that is not valid; it is a name all the same.
func TestEmptyNames(t *testing.T) {
	a := atom("", "", 4, variable(""), constant(""), variable("X"))
	if got := term.Vars(a); !slices.Equal(got, []string{"", "X"}) {
		t.Errorf("Vars = %q", got)
	}
	if got := term.Consts(a); !slices.Equal(got, []string{""}) {
		t.Errorf("Consts = %q", got)
	}
	if got := term.Text(a); got != " says (, , X, )" {
		t.Errorf("Text = %q", got)
	}
}

// P3.2: Text, with the chapter's examples, and of atoms that are not valid.
func TestText(t *testing.T) {
	a, x := constant("a"), variable("X")
	cases := []struct {
		atom api.Atom
		want string
	}{
		{whole("alice", "p", a, x), "alice says p(a, X)"}, {whole("bob", "open"), "bob says open"},
		{whole("a", "p", a), "a says p(a)"}, {whole("a", "p", x, x, a), "a says p(X, X, a)"},
		{whole("a", "p", a, x, a, x), "a says p(a, X, a, X)"},
		{atom("a", "p", 0, a, x), "a says p"}, {atom("a", "p", 2, a), "a says p(a, )"},
		{atom("a", "p", 1, a, x), "a says p(a)"},
		{atom("a", "p", 5, a, x, a, x), "a says p(a, X, a, X)"},
		{atom("a", "p", math.MaxInt, a, x), "a says p(a, X, , )"},
		{atom("a", "p", -1, a, x), "a says p"}, {atom("a", "p", math.MinInt, a, x), "a says p"},
		{api.Atom{}, " says "}, {whole("A b", "é\n", constant("(,)")), "A b says é\n((,))"},
		{whole("\xff", "says", variable("\x00")), "\xff says says(\x00)"},
	}
	for _, c := range cases {
		if got := term.Text(c.atom); got != c.want {
			t.Errorf("Text(%+v) = %q", c.atom, got)
		}
	}
}

// P3.2: Made returns the atom, or the error of Check, or ErrLong because of a fifth term before it.
func TestMade(t *testing.T) {
	a, x, bad := constant("a"), variable("X"), constant("A")
	cases := []struct {
		says, pred string
		args       []api.Term
		want       api.Errno
	}{
		{"bob", "open", nil, api.OK}, {"bob", "open", []api.Term{}, api.OK}, {"alice", "p", []api.Term{a, x}, api.OK},
		{"a", "p", []api.Term{x}, api.OK}, {"a", "p", []api.Term{a, a, a}, api.OK}, {"a", "p", []api.Term{a, x, a, x}, api.OK},
		{"a", "p", []api.Term{a, a, a, a, a}, api.ErrLong}, {"A", "", []api.Term{bad, a, a, a, a}, api.ErrLong},
		{"a", "p", make([]api.Term, 1000), api.ErrLong},
		{"A", "p", []api.Term{a}, api.ErrText}, {"a", "P", []api.Term{a}, api.ErrText}, {"", "", nil, api.ErrText},
		{"a", "p", []api.Term{bad}, api.ErrText}, {"a", "p", []api.Term{a, a, a, bad}, api.ErrText},
		{"a", "p", []api.Term{a, {}}, api.ErrText}, {"a", "p", []api.Term{{Var: true}}, api.ErrText},
	}
	for _, c := range cases {
		want := api.Atom{}
		if c.want == api.OK {
			want = whole(c.says, c.pred, c.args...)
		}
		if got, e := term.Made(c.says, c.pred, c.args...); got != want || e != c.want {
			t.Errorf("Made(%q, %q, %v) = %+v, %d", c.says, c.pred, c.args, got, e)
		}
	}
}

// Rule 3: the list of terms is neither changed nor kept, and its spare capacity is not read.
func TestMadeCopies(t *testing.T) {
	room := []api.Term{constant("a"), variable("X"), constant("b"), variable("Y")}
	before := slices.Clone(room)
	a, e := term.Made("alice", "p", room[:2]...)
	if e != api.OK || a != whole("alice", "p", constant("a"), variable("X")) {
		t.Fatalf("Made = %+v, %d", a, e)
	}
	if !slices.Equal(room, before) {
		t.Errorf("Made changed its argument: %v", room)
	}
	room[0], room[1] = constant("c"), constant("d")
	if term.Text(a) != "alice says p(a, X)" {
		t.Errorf("Made kept its argument: %s", term.Text(a))
	}
}

// Rule 3: no two results share memory, nor do their spare capacities.
func TestNewLists(t *testing.T) {
	a := whole("a", "p", variable("X"), variable("Y"), variable("Z"), constant("a"))
	for _, f := range []func(api.Atom) []string{term.Vars, term.Consts} {
		one, two := f(a), f(a)
		want := slices.Clone(two)
		for i := range one[:cap(one)] {
			one[:cap(one)][i] = "changed"
		}
		if !slices.Equal(two, want) || !slices.Equal(f(a), want) {
			t.Errorf("two results share memory: %q", two)
		}
	}
}

// parts are names of each kind, right and wrong, of which all atoms of some are made below.
type parts struct {
	says, preds []string
	numbers     []int
	terms       []api.Term
}

// atoms yields each combination of the parts, all four terms of the array included.
func (p parts) atoms() iter.Seq[api.Atom] {
	return func(yield func(api.Atom) bool) {
		rows := product(p.terms, api.MaxArity)
		for _, s := range p.says {
			for _, q := range p.preds {
				for _, n := range p.numbers {
					for _, row := range rows {
						if !yield(atom(s, q, n, row...)) {
							return
						}
					}
				}
			}
		}
	}
}

// product returns all lists of n of the terms.
func product(terms []api.Term, n int) [][]api.Term {
	if n == 0 {
		return [][]api.Term{nil}
	}
	var rows [][]api.Term
	for _, row := range product(terms, n-1) {
		for _, t := range terms {
			rows = append(rows, append(slices.Clone(row), t))
		}
	}
	return rows
}

// plainly is what the chapter says of an atom, with the first N terms as a list and those after them as another.
type plainly struct {
	a           api.Atom
	first, rest []api.Term
}

func split(a api.Atom) plainly {
	var p plainly
	p.a = a
	for i, t := range a.Args {
		if i < a.N {
			p.first = append(p.first, t)
		} else {
			p.rest = append(p.rest, t)
		}
	}
	return p
}

func (p plainly) check() api.Errno {
	right := []string{"a", "b", "p", "q"} // the names of words among the parts
	if !slices.Contains(right, p.a.Says) || !slices.Contains(right, p.a.Pred) {
		return api.ErrText
	}
	if p.a.N < 0 || p.a.N > 4 {
		return api.ErrLong
	}
	for _, t := range p.first {
		if t.Var && t.Name != "X" && t.Name != "Y" || !t.Var && t.Name != "a" {
			return api.ErrText
		}
	}
	for _, t := range p.rest {
		if t.Var || t.Name != "" {
			return api.ErrBad
		}
	}
	return api.OK
}

func (p plainly) names(variables bool) []string {
	var names []string
	for i, t := range p.first {
		earlier := slices.Contains(p.first[:i], t)
		if t.Var == variables && !earlier {
			names = append(names, t.Name)
		}
	}
	return names
}

func (p plainly) text() string {
	text := p.a.Says + " says " + p.a.Pred
	for i, t := range p.first {
		if i == 0 {
			text += "(" + t.Name
		} else {
			text += ", " + t.Name
		}
	}
	if len(p.first) > 0 {
		text += ")"
	}
	return text
}

// P3.1, P3.2: all functions agree with the chapter's words on all atoms of some parts, right and wrong.
func TestAgainstPlain(t *testing.T) {
	all := parts{
		says: []string{"a", "A", ""}, preds: []string{"p", "if"}, numbers: []int{-3, -1, 0, 1, 2, 3, 4, 5, 9},
		terms: []api.Term{{}, constant("a"), constant("X"), variable("X"), variable("Y"), variable("a"), variable("")},
	}
	for a := range all.atoms() {
		p := split(a)
		if got := term.Check(a); got != p.check() {
			t.Fatalf("Check(%+v) = %d, not %d", a, got, p.check())
		}
		if got := term.Ground(a); got != (len(p.names(true)) == 0) {
			t.Fatalf("Ground(%+v) = %v", a, got)
		}
		if got := term.Vars(a); !slices.Equal(got, p.names(true)) {
			t.Fatalf("Vars(%+v) = %q", a, got)
		}
		if got := term.Consts(a); !slices.Equal(got, p.names(false)) {
			t.Fatalf("Consts(%+v) = %q", a, got)
		}
		if got := term.Text(a); got != p.text() {
			t.Fatalf("Text(%+v) = %q", a, got)
		}
		testMadeOf(t, p)
	}
}

// testMadeOf makes an atom of the first N terms: an error of Check is that of the atom, without those after them.
func testMadeOf(t *testing.T, p plainly) {
	alone := whole(p.a.Says, p.a.Pred, p.first...)
	want, wrong := alone, split(alone).check()
	if wrong != api.OK {
		want = api.Atom{}
	}
	if got, e := term.Made(p.a.Says, p.a.Pred, p.first...); got != want || e != wrong {
		t.Fatalf("Made of %+v = %+v, %d", p, got, e)
	}
}

// P3.3: different valid atoms have different texts: all atoms of names of which some are pieces of others.
func TestTextsDiffer(t *testing.T) {
	all := parts{
		says: []string{"a", "aa", "p", "saysa", "a_says"}, preds: []string{"p", "pp", "a", "says_p"}, numbers: []int{0, 1, 2, 3, 4},
		terms: []api.Term{{}, constant("a"), constant("aa"), constant("0"), variable("A"), variable("Aa"), variable("A0")},
	}
	atoms := map[string]api.Atom{}
	for a := range all.atoms() {
		if term.Check(a) != api.OK {
			continue
		}
		text := term.Text(a)
		if b, there := atoms[text]; there && a != b {
			t.Fatalf("%q is the text of %+v and of %+v", text, a, b)
		}
		atoms[text] = a
	}
	if want := 5 * 4 * (1 + 6 + 36 + 216 + 1296); len(atoms) != want {
		t.Errorf("%d texts of %d atoms", len(atoms), want)
	}
}
