package variant_test

import (
	"math"
	"slices"
	"strconv"
	"strings"
	"testing"

	"vouchsafe/api"
	"vouchsafe/term"
	"vouchsafe/variant"
)

func constant(name string) api.Term { return api.Term{Name: name} }

func variable(name string) api.Term { return api.Term{Var: true, Name: name} }

// read reads a name: what begins with an uppercase letter is a variable.
func read(name string) api.Term {
	return api.Term{Var: name != "" && 'A' <= name[0] && name[0] <= 'Z', Name: name}
}

// laid lays the terms into the array; n is told apart from their number.
func laid(n int, terms ...api.Term) api.Atom {
	a := api.Atom{Says: "a", Pred: "p", N: n}
	copy(a.Args[:], terms)
	return a
}

// atom reads "X a b" as an atom of three terms.
func atom(names string) api.Atom {
	var terms []api.Term
	for name := range strings.FieldsSeq(names) {
		terms = append(terms, read(name))
	}
	return laid(len(terms), terms...)
}

// with returns an atom with another N.
func with(n int, a api.Atom) api.Atom {
	a.N = n
	return a
}

// headed returns an atom with other names at its head.
func headed(says, pred string, a api.Atom) api.Atom {
	a.Says, a.Pred = says, pred
	return a
}

// P7.1: the chapter's example, each place, and names that the canonical form uses itself.
func TestCanon(t *testing.T) {
	cases := []struct{ a, want string }{
		{"Y a X Y", "V0 a V1 V0"},
		{"", ""}, {"a", "a"}, {"a b c d", "a b c d"}, {"X", "V0"}, {"X X", "V0 V0"}, {"X Y", "V0 V1"}, {"Y X", "V0 V1"}, {"Y X Y", "V0 V1 V0"},
		{"X Y Z W", "V0 V1 V2 V3"}, {"W Z Y X", "V0 V1 V2 V3"}, {"X X X X", "V0 V0 V0 V0"}, {"X X X Y", "V0 V0 V0 V1"}, {"X Y Y X", "V0 V1 V1 V0"},
		{"X Y X Y", "V0 V1 V0 V1"}, {"X Y Z X", "V0 V1 V2 V0"}, {"X Y Z Y", "V0 V1 V2 V1"}, {"X Y Z Z", "V0 V1 V2 V2"}, {"X Y X Z", "V0 V1 V0 V2"},
		{"X X Y Z", "V0 V0 V1 V2"}, {"X Y Y Z", "V0 V1 V1 V2"}, {"a X", "a V0"}, {"a b X", "a b V0"}, {"a b c X", "a b c V0"}, {"X a b c", "V0 a b c"},
		{"a X b Y", "a V0 b V1"}, {"X a a Y", "V0 a a V1"},

		// Names like those of the canonical form, in another order or with gaps: all are renamed at once.
		{"V0", "V0"}, {"V1", "V0"}, {"V3", "V0"}, {"V1 V0", "V0 V1"}, {"V1 V0 V1", "V0 V1 V0"}, {"V3 V2 V1 V0", "V0 V1 V2 V3"}, {"V1 V2 V3 V0", "V0 V1 V2 V3"},
		{"X V0", "V0 V1"}, {"X V0 X V1", "V0 V1 V0 V2"}, {"V1 V1", "V0 V0"}, {"V0 V2", "V0 V1"}, {"V0 V00 V01 V10", "V0 V1 V2 V3"},

		// Names are the same if their bytes are.
		{"X Xx XX X", "V0 V1 V2 V0"}, {"X#1 X#2 X#1 X", "V0 V1 V0 V2"}, {"Xé Xz Xé X\xff", "V0 V1 V0 V2"}, {"X Xa XA X_", "V0 V1 V2 V3"},

		// Constants remain, whatever their names.
		{"v0 X v1 Y", "v0 V0 v1 V1"}, {"0 X 1 Y", "0 V0 1 V1"}, {"x X x", "x V0 x"}, {"says X", "says V0"},
	}
	for _, c := range cases {
		if got := variant.Canon(atom(c.a)); got != atom(c.want) {
			t.Errorf("Canon(%s) = %+v", c.a, got)
		}
	}
	long := strings.Repeat("X", 300)
	odd := []struct{ a, want api.Atom }{
		{api.Atom{}, api.Atom{}},
		{laid(3, variable("X"), constant("X"), variable("X")), laid(3, variable("V0"), constant("X"), variable("V0"))},
		{laid(4, constant("V0"), variable("X"), constant("V1"), variable("Y")), laid(4, constant("V0"), variable("V0"), constant("V1"), variable("V1"))},
		{laid(4, variable(""), constant(""), variable("X"), variable("")), laid(4, variable("V0"), constant(""), variable("V1"), variable("V0"))},
		{laid(2, variable("X"), variable("")), laid(2, variable("V0"), variable("V1"))},
		{laid(3, variable("x y"), variable("a"), variable(long)), laid(3, variable("V0"), variable("V1"), variable("V2"))},
		{headed("X", "V1", atom("X V1 X")), headed("X", "V1", atom("V0 V1 V0"))}, {headed("", "", atom("X")), headed("", "", atom("V0"))},
	}
	for _, c := range odd {
		if got := variant.Canon(c.a); got != c.want {
			t.Errorf("Canon(%+v) = %+v", c.a, got)
		}
	}
}

// P7.1: only the first N terms are renamed, at most four, none if N is below 0; N and the terms after them remain.
func TestCanonTermsAfter(t *testing.T) {
	four, short := atom("Y X Y Z"), atom("X")
	cases := []struct {
		n    int
		want api.Atom
	}{
		{math.MinInt, four}, {-1, four}, {0, four}, {1, atom("V0 X Y Z")}, {2, atom("V0 V1 Y Z")}, {3, atom("V0 V1 V0 Z")}, {4, atom("V0 V1 V0 V2")},
		{5, atom("V0 V1 V0 V2")}, {math.MaxInt, atom("V0 V1 V0 V2")},
	}
	for _, c := range cases {
		if got := variant.Canon(with(c.n, four)); got != with(c.n, c.want) {
			t.Errorf("Canon with N %d = %+v", c.n, got)
		}
	}
	for _, n := range []int{2, 4, 5} { // the terms that are not there are constants without a name
		if got := variant.Canon(with(n, short)); got != with(n, atom("V0")) {
			t.Errorf("Canon of one term with N %d = %+v", n, got)
		}
	}
}

// P7.1: Key is the text of the canonical form.
func TestKey(t *testing.T) {
	cases := []struct {
		a    api.Atom
		want string
	}{
		{atom("Y a X Y"), "a says p(V0, a, V1, V0)"}, {atom(""), "a says p"}, {atom("a"), "a says p(a)"}, {atom("X"), "a says p(V0)"},
		{atom("V1 V0"), "a says p(V0, V1)"}, {headed("bob", "open", atom("Y X")), "bob says open(V0, V1)"}, {headed("bob", "open", atom("")), "bob says open"},
		{with(1, atom("X Y")), "a says p(V0)"}, {with(0, atom("X")), "a says p"}, {with(-1, atom("X")), "a says p"}, {with(5, atom("X Y X a")), "a says p(V0, V1, V0, a)"},
		{with(math.MinInt, atom("X")), "a says p"}, {with(math.MaxInt, atom("X Y X a")), "a says p(V0, V1, V0, a)"}, {with(2, atom("X")), "a says p(V0, )"},
		{laid(2, variable(""), constant("")), "a says p(V0, )"}, {laid(1, constant("X")), "a says p(X)"}, {api.Atom{}, " says "}, {headed("X", "Y", atom("Y")), "X says Y(V0)"},
	}
	for _, c := range cases {
		if got := variant.Key(c.a); got != c.want {
			t.Errorf("Key(%+v) = %q", c.a, got)
		}
	}
}

// P7.1: Same, in both orders.
func TestSame(t *testing.T) {
	cases := []struct {
		a, b api.Atom
		want bool
	}{
		{atom("X"), atom("X"), true}, {atom("X"), atom("Y"), true}, {atom("X Y"), atom("Y X"), true}, {atom("X Y"), atom("V1 V0"), true}, {atom("X Y X"), atom("P Q P"), true},
		{atom("Y a X Y"), atom("X a Z X"), true}, {atom(""), atom(""), true}, {atom("a b"), atom("a b"), true}, {atom("X Y Z W"), atom("Y Z W X"), true}, {api.Atom{}, api.Atom{}, true},

		{atom("X Y"), atom("X X"), false}, {atom("X X"), atom("X Y"), false}, {atom("X Y X"), atom("X Y Y"), false}, {atom("X Y Z W"), atom("X Y Z X"), false},
		{atom("X"), atom("a"), false}, {atom("a"), atom("b"), false}, {atom("X a"), atom("X b"), false}, {atom("X a"), atom("a X"), false}, {atom("X X Y Y"), atom("X Y X Y"), false},
		{atom("X"), atom("X Y"), false}, {atom(""), atom("X"), false}, {headed("b", "p", atom("X")), atom("X"), false}, {headed("a", "q", atom("X")), atom("X"), false},
		{headed("X", "p", atom("X")), headed("Y", "p", atom("Y")), false}, {headed("a", "X", atom("X")), headed("a", "Y", atom("Y")), false}, {headed("b", "", atom("X")), headed("", "b", atom("X")), false},

		// A variable is not the constant with its name, nor the one with the name that it gets.
		{atom("X"), laid(1, constant("X")), false}, {atom("X"), laid(1, constant("V0")), false}, {laid(1, constant("X")), laid(1, constant("Y")), false},
		{laid(2, variable("X"), constant("V0")), atom("X X"), false}, {laid(2, variable("X"), constant("X")), laid(2, variable("Y"), constant("X")), true},
		{laid(2, variable("X"), constant("X")), laid(2, variable("Y"), constant("Y")), false}, {laid(1, variable("")), atom("X"), true}, {laid(1, variable("")), laid(1, constant("")), false},
		{laid(2, variable(""), variable("X")), atom("X Y"), true}, {laid(2, variable(""), variable("")), atom("X Y"), false}, {laid(1, variable("a")), atom("X"), true},

		// N counts as it is, and so do the terms after the first N: they are not renamed.
		{with(1, atom("X Y")), with(1, atom("Z Y")), true}, {with(1, atom("X Y")), with(1, atom("Y X")), false}, {with(1, atom("X Y")), atom("X"), false}, {with(1, atom("X a")), with(1, atom("X b")), false},
		{with(0, atom("X")), with(0, atom("X")), true}, {with(0, atom("X")), with(0, atom("Y")), false}, {with(-1, atom("X")), with(-1, atom("X")), true}, {with(-1, atom("X")), with(-1, atom("Y")), false},
		{with(-1, atom("")), with(-2, atom("")), false}, {with(0, atom("")), with(-1, atom("")), false}, {with(4, atom("X")), with(5, atom("X")), false}, {with(5, atom("X")), with(5, atom("Y")), true},
		{with(5, atom("X Y Z W")), with(6, atom("X Y Z W")), false}, {with(math.MaxInt, atom("X a b Y")), with(math.MaxInt, atom("Y a b X")), true},
		{with(3, atom("X Y")), with(3, laid(2, variable("P"), variable("Q"), variable(""))), false},
	}
	for _, c := range cases {
		if variant.Same(c.a, c.b) != c.want || variant.Same(c.b, c.a) != c.want {
			t.Errorf("Same(%+v, %+v), in one order or the other, is not %v", c.a, c.b, c.want)
		}
	}
}

// P7.1: Distinct keeps the first of each class, in order, in canonical form.
func TestDistinct(t *testing.T) {
	cases := []struct{ l, want string }{
		{"X", "V0"}, {"a", "a"}, {"X; X", "V0"}, {"X; Y", "V0"}, {"X; a; Y", "V0; a"}, {"a; X; a; Y; b", "a; V0; b"}, {"a; b; a; b", "a; b"}, {"b; a", "b; a"},
		{"X Y; X X; Y X; Y Y", "V0 V1; V0 V0"}, {"Y Y; Y X; X X; X Y", "V0 V0; V0 V1"}, {"X; X Y; X Y Z; Y; Z Y; P Q R", "V0; V0 V1; V0 V1 V2"},
		{"X a; a X; Y a; a Y; X b", "V0 a; a V0; V0 b"}, {"Y a X Y; X a Y X; X a Y Y", "V0 a V1 V0; V0 a V1 V1"}, {"V1 V0; V0 V1; V2 V0", "V0 V1"},
		{"X Y X Y; X X Y Y; P Q P Q; P P Q Q; P Q Q P", "V0 V1 V0 V1; V0 V0 V1 V1; V0 V1 V1 V0"},
	}
	for _, c := range cases {
		if got := variant.Distinct(atoms(c.l)); !slices.Equal(got, atoms(c.want)) {
			t.Errorf("Distinct(%s) = %+v", c.l, got)
		}
	}
	if got := variant.Distinct(nil); len(got) != 0 {
		t.Errorf("Distinct of nil = %+v", got)
	}
	if got := variant.Distinct([]api.Atom{}); len(got) != 0 {
		t.Errorf("Distinct of an empty list = %+v", got)
	}
}

// atoms reads "X a; Y", a list of two.
func atoms(text string) []api.Atom {
	var l []api.Atom
	for names := range strings.SplitSeq(text, ";") {
		l = append(l, atom(names))
	}
	return l
}

// P7.1: Distinct tells atoms apart that are not variants, also where their texts are the same.
func TestDistinctOdd(t *testing.T) {
	l := []api.Atom{
		{}, atom("X"), laid(1, constant("V0")), with(1, atom("X Y")), with(1, atom("Y X")), with(-1, atom("")), atom(""), with(-2, atom("")), with(4, atom("X Y Z W")),
		with(5, atom("X Y Z W")), headed("b", "p", atom("X")), headed("a", "q", atom("X")), laid(2, constant("b, c"), constant("d")), laid(2, constant("b"), constant("c, d")),
	}
	var forms, twice []api.Atom
	for _, a := range l {
		forms = append(forms, variant.Canon(a))
		twice = append(twice, a, a)
	}
	for _, list := range [][]api.Atom{l, twice, append(slices.Clone(l), l...), append(slices.Clone(l), forms...), forms} {
		if got := variant.Distinct(list); !slices.Equal(got, forms) {
			t.Errorf("Distinct(%+v) = %+v", list, got)
		}
	}
	some := []api.Atom{laid(1, variable("")), with(5, atom("Q P Q P")), atom("X"), with(5, atom("X Y X Y")), atom("Y")}
	if got := variant.Distinct(some); !slices.Equal(got, []api.Atom{atom("V0"), with(5, atom("V0 V1 V0 V1"))}) {
		t.Errorf("Distinct(%+v) = %+v", some, got)
	}
}

// Rule 3: Distinct neither changes what it is given, nor returns any of it; two results share nothing.
func TestResultsAreNew(t *testing.T) {
	for _, text := range []string{"V0; V0 V1; a", "X; Y; X Y", "X", "a; a; a; a; a"} {
		spare := append(slices.Grow(atoms(text), 8), atoms("P; Q; R; S")...)
		l, before := spare[:len(atoms(text))], slices.Clone(spare)
		one, two := variant.Distinct(l), variant.Distinct(l)
		want := slices.Clone(two)
		for i := range one[:cap(one)] {
			one[:cap(one)][i] = headed("changed", "changed", atom(""))
		}
		if !slices.Equal(spare, before) {
			t.Errorf("Distinct(%s) changes its argument: %+v", text, spare)
		}
		if again := variant.Distinct(l); !slices.Equal(two, want) || !slices.Equal(again, want) {
			t.Errorf("Distinct(%s): two results share memory: %+v, %+v", text, two, again)
		}
	}
}

// P7.1: a long list ends in reasonable time.
func TestLongList(t *testing.T) {
	const n = 100000
	var l, want []api.Atom
	for i := range 2 * n {
		c, v := constant("c"+strconv.Itoa(i%n)), variable("X"+strconv.Itoa(i))
		l = append(l, laid(3, v, c, v))
		if i < n {
			want = append(want, laid(3, variable("V0"), c, variable("V0")))
		}
	}
	if got := variant.Distinct(l); !slices.Equal(got, want) {
		t.Errorf("Distinct of a long list: %d atoms", len(got))
	}
}

// The chapter's words once more, as plainly as they can be written.

// small returns all atoms of at most four of some terms, with each N that makes a difference.
func small() []api.Atom {
	terms := []api.Term{{}, variable(""), constant("V0"), variable("V0"), variable("V1"), variable("X")}
	rows := [][]api.Term{nil}
	var all []api.Atom
	for width := range 4 {
		for _, row := range rows {
			for n := -1; n <= width; n++ {
				all = append(all, laid(n, row...))
			}
		}
		var longer [][]api.Term
		for _, row := range rows {
			for _, t := range terms {
				longer = append(longer, append(slices.Clone(row), t))
			}
		}
		rows = longer
	}
	for _, row := range rows { // of four terms only some, as there are many
		if !slices.Contains(row, api.Term{}) && !slices.Contains(row, constant("V0")) {
			all = append(all, laid(4, row...), laid(5, row...))
		}
	}
	return all
}

// counted returns the terms that count.
func counted(a api.Atom) []api.Term { return a.Args[:min(max(a.N, 0), 4)] }

// renamed returns an atom with its variables renamed.
func renamed(a api.Atom, to map[string]string) api.Atom {
	for i, t := range counted(a) {
		if t.Var {
			a.Args[i].Name = to[t.Name]
		}
	}
	return a
}

// renamable reports whether an atom becomes another one if its variables are renamed, different ones to different ones: each way to do that is tried.
func renamable(a, b api.Atom, from, to []string, names map[string]string) bool {
	if len(from) == 0 {
		return renamed(a, names) == b
	}
	for i, name := range to {
		names[from[0]] = name
		if renamable(a, b, from[1:], slices.Delete(slices.Clone(to), i, i+1), names) {
			return true
		}
	}
	return false
}

// variants reports whether each of two atoms is the other one renamed.
func variants(a, b api.Atom) bool {
	one, other := term.Vars(a), term.Vars(b)
	return renamable(a, b, one, other, map[string]string{}) && renamable(b, a, other, one, map[string]string{})
}

// plainCanon gives each variable the number of different ones before it.
func plainCanon(a api.Atom) api.Atom {
	to := map[string]string{}
	for i, name := range term.Vars(a) {
		to[name] = "V" + strconv.Itoa(i)
	}
	return renamed(a, to)
}

// P7.1, P7.2: Canon agrees with the chapter's words, twice is the same as once, and each atom is a variant of its canonical form.
func TestCanonAgainstPlain(t *testing.T) {
	for _, a := range small() {
		c := variant.Canon(a)
		if c != plainCanon(a) || variant.Key(a) != term.Text(c) {
			t.Fatalf("Canon(%+v) = %+v, Key %q", a, c, variant.Key(a))
		}
		if variant.Canon(c) != c || !variant.Same(a, c) || !variants(a, c) {
			t.Fatalf("Canon(%+v) = %+v, again: %+v", a, c, variant.Canon(c))
		}
	}
}

// P7.2: Same means being variants.
func TestSameMeansVariants(t *testing.T) {
	all := small()
	same := 0
	for _, a := range all {
		for _, b := range all {
			is := variant.Same(a, b)
			if a.N == b.N && is != variants(a, b) || a.N != b.N && is {
				t.Fatalf("Same(%+v, %+v) = %v", a, b, is)
			}
			if is && a != b {
				same++
			}
		}
	}
	if same < 1000 {
		t.Errorf("only %d are variants", same)
	}
}

// P7.1: Distinct of all of them has one of each class, the first.
func TestDistinctAgainstPlain(t *testing.T) {
	all := small()
	back := slices.Clone(all)
	slices.Reverse(back)
	for _, l := range [][]api.Atom{all, back, slices.Concat(all, back)} {
		var want []api.Atom
		for _, a := range l {
			if !slices.ContainsFunc(want, func(b api.Atom) bool { return a.N == b.N && variants(a, b) }) {
				want = append(want, plainCanon(a))
			}
		}
		if got := variant.Distinct(l); !slices.Equal(got, want) {
			t.Errorf("Distinct of %d atoms: %d, not %d", len(l), len(got), len(want))
		}
	}
}
