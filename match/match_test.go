package match_test

import (
	"maps"
	"math"
	"slices"
	"strconv"
	"strings"
	"testing"

	"vouchsafe/api"
	"vouchsafe/match"
	"vouchsafe/subst"
	"vouchsafe/term"
)

type list = []api.Binding

func constant(name string) api.Term { return api.Term{Name: name} }

func variable(name string) api.Term { return api.Term{Var: true, Name: name} }

func bind(v string, t api.Term) api.Binding { return api.Binding{Var: v, Term: t} }

// read reads a name: what begins with an uppercase letter is a variable.
func read(name string) api.Term {
	return api.Term{Var: name != "" && 'A' <= name[0] && name[0] <= 'Z', Name: name}
}

// bindings reads "X b, Y Z".
func bindings(text string) list {
	var l list
	for pair := range strings.SplitSeq(text, ", ") {
		if v, t, ok := strings.Cut(pair, " "); ok {
			l = append(l, bind(v, read(t)))
		}
	}
	return l
}

// laid lays the terms into the array; n is told apart from their number.
func laid(n int, terms ...api.Term) api.Atom {
	a := api.Atom{Says: "a", Pred: "p", N: n}
	for i, t := range terms {
		a.Args[i] = t
	}
	return a
}

// atom reads "X a b" as an atom of three terms.
func atom(names string) api.Atom {
	var terms []api.Term
	for name := range strings.FieldsSeq(names) {
		terms = append(terms, read(name))
	}
	return laid(len(terms), terms...)
}

// with returns an atom with another N.
func with(n int, a api.Atom) api.Atom {
	a.N = n
	return a
}

const none = "none" // for a case in which there are no bindings

// P5.1: Match, with the chapter's examples, each place, and what does not match.
func TestMatch(t *testing.T) {
	cases := []struct{ pattern, ground, want string }{
		{"X X", "a a", "X a"}, {"X X", "a b", none},
		{"", "", ""}, {"a", "a", ""}, {"a", "b", none}, {"X", "a", "X a"}, {"a b c d", "a b c d", ""},
		{"X Y", "a b", "X a, Y b"}, {"Y X", "a b", "X b, Y a"}, {"X Y", "a a", "X a, Y a"}, {"X a", "b a", "X b"},
		{"a X", "a b", "X b"}, {"a X", "b b", none}, {"X a", "b b", none},
		{"X Y Z W", "a b c d", "W d, X a, Y b, Z c"}, {"X Y X Y", "a b a b", "X a, Y b"}, {"X Y Y X", "a b b a", "X a, Y b"},
		{"X Y X Y", "a b b a", none}, {"X X X X", "a a a a", "X a"}, {"X X X X", "a a a b", none},
		{"X X X X", "b a a a", none}, {"X a X b", "c a c b", "X c"}, {"X a X b", "c a c c", none}, {"X a X b", "c b c b", none},
		{"a X b", "a c d", none}, {"a b X", "a b says", "X says"}, {"X#1 X#2", "a b", "X#1 a, X#2 b"},
		{"X#10 X#2", "a b", "X#10 a, X#2 b"},

		{"X", "a b", none}, {"X Y", "a", none}, {"", "a", none}, {"X", "", none},
		{"X", "X", none}, {"X", "Y", none}, {"a", "X", none}, {"X Y", "a X", none}, {"X a", "a X", none}, {"X X", "Y Y", none},
	}
	for _, c := range cases {
		got, is := match.Match(atom(c.pattern), atom(c.ground))
		if is != (c.want != none) || !slices.Equal(got, bindings(c.want)) {
			t.Errorf("Match(%s; %s) = %+v, %v", c.pattern, c.ground, got, is)
		}
	}
}

// P5.1: Says and Pred have to be the same, by bytes, and N, from 0 to 4; they need not be those of a valid atom.
func TestMatchHeads(t *testing.T) {
	named := func(says, pred string, n int) api.Atom {
		return api.Atom{Says: says, Pred: pred, N: n, Args: [4]api.Term{constant("a"), constant("a"), constant("a"), constant("a")}}
	}
	cases := []struct {
		a, b api.Atom
		want bool
	}{
		{named("a", "p", 2), named("a", "p", 2), true}, {named("a", "p", 0), named("a", "p", 0), true},
		{named("a", "p", 4), named("a", "p", 4), true}, {api.Atom{}, api.Atom{}, true},
		{named("", "", 1), named("", "", 1), true}, {named("A b", "says", 1), named("A b", "says", 1), true},
		{named("a", "p", 2), named("b", "p", 2), false}, {named("a", "p", 2), named("a", "q", 2), false},
		{named("a", "p", 2), named("p", "a", 2), false}, {named("ap", "", 1), named("a", "p", 1), false},
		{named("a", "p", 2), named("a", "p", 1), false}, {named("a", "p", 1), named("a", "p", 2), false},
		{named("a", "p", 0), named("a", "p", -1), false}, {named("a", "p", 4), named("a", "p", 5), false},
		{named("a", "p", -1), named("a", "p", -1), false}, {named("a", "p", 5), named("a", "p", 5), false},
		{named("a", "p", math.MinInt), named("a", "p", math.MinInt), false},
		{named("a", "p", math.MaxInt), named("a", "p", math.MaxInt), false},
	}
	for _, c := range cases {
		if got, is := match.Match(c.a, c.b); is != c.want || len(got) != 0 {
			t.Errorf("Match(%+v, %+v) = %+v, %v", c.a, c.b, got, is)
		}
		if got, is := match.Extend(bindings("X a"), c.a, c.b); is != c.want || is && !slices.Equal(got, bindings("X a")) || !is && got != nil {
			t.Errorf("Extend(X a; %+v, %+v) = %+v, %v", c.a, c.b, got, is)
		}
		if match.Under(c.b, c.a) != c.want {
			t.Errorf("Under(%+v, %+v) = %v", c.b, c.a, !c.want)
		}
		if got := match.All(c.a, []api.Atom{c.b}); (len(got) == 1) != c.want {
			t.Errorf("All(%+v, %+v) = %+v", c.a, c.b, got)
		}
	}
}

// P5.1, P5.2: terms after the first N do not matter.
func TestTermsAfter(t *testing.T) {
	cases := []struct {
		pattern, a api.Atom
		want       string
		under      bool
	}{
		{with(1, atom("X X")), with(1, atom("a b")), "X a", true}, {with(1, atom("X a")), with(1, atom("a b c d")), "X a", true},
		{with(1, atom("X X X X")), with(1, atom("a X Y Z")), "X a", true}, {with(0, atom("a")), with(0, atom("b")), "", true},
		{with(0, atom("X")), with(0, atom("X Y")), "", true}, {with(3, atom("X Y X X")), with(3, atom("a b a b")), "X a, Y b", true},
		{with(3, atom("X Y X X")), with(3, atom("a b b a")), none, false}, {with(2, atom("X a X")), with(2, atom("c a d")), "X c", true},
		{laid(1, variable("X"), variable("")), laid(1, constant("a")), "X a", true},
		{with(1, atom("a X")), with(1, atom("X a")), none, false},
	}
	for _, c := range cases {
		got, is := match.Match(c.pattern, c.a)
		if is != (c.want != none) || !slices.Equal(got, bindings(c.want)) {
			t.Errorf("Match(%+v, %+v) = %+v, %v", c.pattern, c.a, got, is)
		}
		if match.Under(c.a, c.pattern) != c.under {
			t.Errorf("Under(%+v, %+v) = %v", c.a, c.pattern, !c.under)
		}
		if got := match.All(c.pattern, []api.Atom{c.a}); is != slices.Equal(got, []api.Atom{c.a}) || !is && got != nil {
			t.Errorf("All(%+v, %+v) = %+v", c.pattern, c.a, got)
		}
	}
	// A variable after the first N may be bound to a variable: it is none of the pattern's.
	if got, is := match.Extend(bindings("Y Z"), with(1, atom("X Y")), atom("a")); !is || !slices.Equal(got, bindings("X a, Y Z")) {
		t.Errorf("Extend: %+v, %v", got, is)
	}
}

// P5.1: Extend, with given bindings of the pattern's variables and of others.
func TestExtend(t *testing.T) {
	cases := []struct{ l, pattern, ground, want string }{
		{"", "X Y", "a b", "X a, Y b"}, {"X a", "X", "a", "X a"}, {"X a", "X", "b", none}, {"X d", "X X", "c c", none},
		{"X a", "X Y", "a b", "X a, Y b"}, {"X a", "Y X", "b a", "X a, Y b"}, {"X a", "Y X", "a b", none},
		{"Y b", "X Y Z", "a b c", "X a, Y b, Z c"}, {"W w", "X Y", "a b", "W w, X a, Y b"}, {"Z z", "X Y", "a b", "X a, Y b, Z z"},
		{"X a, Y b", "Y X", "b a", "X a, Y b"}, {"X a, Y b", "X Y", "b a", none}, {"X a, Y b", "c", "c", "X a, Y b"},
		{"X a, Y b", "c", "d", none}, {"X a, Y b", "", "", "X a, Y b"},

		// The given ones come under the new ones.
		{"Y Z", "Z", "c", "Y c, Z c"}, {"W Z, X Z, Y V", "Z", "c", "W c, X c, Y V, Z c"}, {"W Z, X Y", "Z Y", "a b", "W a, X b, Y b, Z a"},
		{"X b, Y Z", "X Z", "b c", "X b, Y c, Z c"}, {"Y Z", "a", "a", "Y Z"}, {"Y Z", "X", "a", "X a, Y Z"},

		// A variable of the pattern must not be bound to a variable, also not to one that the pattern binds.
		{"X Z", "X", "a", none}, {"Y Z", "X Y", "a b", none}, {"Y Z", "Z Y", "a a", none}, {"Y Z", "Y Z", "a a", none},
		{"X a, Y Z", "X a b Y", "a a b c", none}, {"W Z", "X Y X W", "a b a a", none},

		// Lists that are not valid.
		{"Y a, X b", "Z", "a", none}, {"X X", "Z", "a", none}, {"X a, X a", "X", "a", none}, {"X Y, Y a", "Z", "a", none},
		{"Y a, X b", "", "", none}, {"X ", "Z", "a", none},

		{"X a", "X", "X", none}, {"X a", "X Y", "a Y", none}, {"X a", "X", "a a", none},
	}
	for _, c := range cases {
		got, is := match.Extend(bindings(c.l), atom(c.pattern), atom(c.ground))
		if is != (c.want != none) || !slices.Equal(got, bindings(c.want)) {
			t.Errorf("Extend(%s; %s; %s) = %+v, %v", c.l, c.pattern, c.ground, got, is)
		}
	}
	// A given binding of a constant with the name of a variable is not one of that variable.
	l, want := list{bind("X", constant("Y"))}, list{bind("X", constant("Y")), bind("Y", constant("X"))}
	if got, is := match.Extend(l, atom("X Y"), laid(2, constant("Y"), constant("X"))); !is || !slices.Equal(got, want) {
		t.Errorf("Extend with constants named like variables: %+v, %v", got, is)
	}
}

// P5.1: a variable without a name is not bound, nor is anything bound to a term without a name; two constants without a name are equal all the same.
func TestNoNames(t *testing.T) {
	given := list{bind("", constant("a")), bind("X", constant("b"))}
	cases := []struct {
		what            string
		l               list
		pattern, ground api.Atom
		want            list
		is              bool
	}{
		{"a variable without a name", nil, laid(1, variable("")), atom("a"), nil, false},
		{"one after another variable", nil, laid(2, variable("X"), variable("")), atom("a a"), nil, false},
		{"one before a term without a name", nil, laid(1, variable("")), laid(1, constant("")), nil, false},
		{"one that is given a term", given, laid(1, variable("")), atom("a"), nil, false},
		{"to a term without a name", nil, atom("X"), laid(1, constant("")), nil, false},
		{"to a term without a name at last", nil, atom("X Y"), laid(2, constant("a"), constant("")), nil, false},
		{"bound, to a term without a name", given, atom("X"), laid(1, constant("")), nil, false},
		{"two without names", nil, laid(1, constant("")), laid(1, constant("")), nil, true},
		{"two without names, and a variable", nil, laid(2, constant(""), variable("X")), laid(2, constant(""), constant("a")), bindings("X a"), true},
		{"one without a name, one with", nil, laid(1, constant("")), atom("a"), nil, false},
		{"one with a name, one without", nil, atom("a"), laid(1, constant("")), nil, false},
		{"a variable without a name in the ground atom", nil, laid(1, variable("")), laid(1, variable("")), nil, false},
		{"given to a term without a name", list{bind("X", constant(""))}, atom("Y"), atom("a"), nil, false},
		{"given a variable without a name, for another", given, atom("X Y"), atom("b c"), append(slices.Clone(given), bind("Y", constant("c"))), true},
	}
	for _, c := range cases {
		if got, is := match.Extend(c.l, c.pattern, c.ground); is != c.is || !slices.Equal(got, c.want) {
			t.Errorf("%s: Extend = %+v, %v", c.what, got, is)
		}
	}
}

// P5.2: Under, for ground atoms and others, whose variables remain as they are.
func TestUnder(t *testing.T) {
	cases := []struct {
		a, pattern string
		want       bool
	}{
		{"", "", true}, {"a", "a", true}, {"a", "b", false}, {"a", "X", true}, {"X", "X", true}, {"X", "Y", true}, {"X", "a", false},
		{"a a", "X X", true}, {"a b", "X X", false}, {"a b", "X Y", true}, {"a a", "X Y", true}, {"b a", "a X", false},
		{"X Y", "X X", false}, {"X X", "X Y", true}, {"X Y", "Y X", true}, {"Y X", "X Y", true}, {"Y Y", "X Y", true},
		{"X a", "X X", false}, {"a X", "X X", false}, {"Y a", "X Y", true}, {"X b", "Y a", false}, {"Y Z X", "X Y Z", true},
		{"X Y X Y", "Y X Y X", true}, {"X Y Y X", "Y X Y X", false}, {"Z Z Z Z", "X Y Y X", true}, {"a b c d", "X Y Z W", true},
		{"a b c a", "X Y Z X", true}, {"a b c d", "X Y Z X", false}, {"a X b Y", "a Z b Z", false}, {"a X b X", "a Z b Z", true},
		{"a", "X Y", false}, {"a b", "X", false}, {"", "X", false}, {"a", "", false},
	}
	for _, c := range cases {
		if got := match.Under(atom(c.a), atom(c.pattern)); got != c.want {
			t.Errorf("Under(%s; %s) = %v", c.a, c.pattern, got)
		}
	}
	// Names may be empty, and a constant is not the variable of its name.
	odd := []struct {
		a, pattern api.Atom
		want       bool
	}{
		{atom("a"), laid(1, variable("")), true}, {laid(1, constant("")), atom("X"), true}, {laid(1, variable("")), atom("X"), true},
		{laid(1, variable("")), laid(1, constant("")), false}, {laid(1, constant("")), laid(1, variable("")), true},
		{atom("a b"), laid(2, variable(""), variable("")), false}, {atom("a a"), laid(2, variable(""), variable("")), true},
		{laid(2, variable("X"), constant("X")), atom("X X"), false}, {atom("X X"), laid(2, variable("X"), constant("X")), false},
		{laid(2, variable("Y"), constant("X")), laid(2, variable("X"), constant("X")), true},
		{laid(2, constant("X"), variable("X")), laid(2, constant("X"), variable("Y")), true},
	}
	for _, c := range odd {
		if got := match.Under(c.a, c.pattern); got != c.want {
			t.Errorf("Under(%+v, %+v) = %v", c.a, c.pattern, got)
		}
	}
}

// P5.2: All returns what is ground and matched, in the order of the list, as often as it is there.
func TestAll(t *testing.T) {
	l := []api.Atom{atom("b b"), atom("a b"), atom("X X"), atom("a"), atom("a a"), atom("a X"), atom("b b"), with(5, atom("a a"))}
	other := atom("a a")
	other.Pred = "q"
	l = append(l, other, with(2, atom("a a X")), laid(2))
	cases := []struct {
		pattern api.Atom
		want    []int
	}{
		{atom("X X"), []int{0, 4, 6, 9}}, {atom("X Y"), []int{0, 1, 4, 6, 9}}, {atom("a X"), []int{1, 4, 9}}, {atom("X b"), []int{0, 1, 6}},
		{atom("a b"), []int{1}}, {atom("X"), []int{3}}, {atom("a"), []int{3}}, {atom("c X"), nil}, {atom(""), nil}, {atom("X Y Z"), nil},
		{laid(2), []int{10}}, {with(5, atom("a a")), nil}, {laid(2, variable(""), variable("")), nil}, {with(-1, atom("a a")), nil},
	}
	for _, c := range cases {
		var want []api.Atom
		for _, i := range c.want {
			want = append(want, l[i])
		}
		if got := match.All(c.pattern, l); !slices.Equal(got, want) {
			t.Errorf("All(%+v) = %+v", c.pattern, got)
		}
	}
	if got := match.All(atom("X"), nil); len(got) != 0 {
		t.Errorf("All of nothing: %+v", got)
	}
}

// Rule 3: nothing that was passed is changed, in its spare capacity neither.
func TestArgumentsStay(t *testing.T) {
	room := bindings("B b, D C, F C, Spare spare, Spare spare")
	before := slices.Clone(room)
	for _, pattern := range []string{"b", "C", "A G", "B C", "D", "B", "B B"} {
		match.Extend(room[:3], atom(pattern), atom("b"))
		match.Extend(room[:3], atom(pattern), atom("b b"))
		if !slices.Equal(room, before) {
			t.Fatalf("Extend by %s changes what it is given: %+v", pattern, room)
		}
	}
	atoms := []api.Atom{atom("b"), atom("a"), atom("X"), atom("a"), atom("a")}
	same := slices.Clone(atoms)
	if got := match.All(atom("a"), atoms[:3]); len(got) != 1 || !slices.Equal(atoms, same) {
		t.Errorf("All: %+v, of %+v", got, atoms)
	}
}

// Rule 3: a result is new memory with its spare capacity: to write there changes no argument and no other result.
func TestResultsAreNew(t *testing.T) {
	l := bindings("B b, D C, F C")
	for _, pattern := range []string{"b", "B", "C", "A", "G", "X"} {
		one, is := match.Extend(l, atom(pattern), atom("b"))
		two, _ := match.Extend(l, atom(pattern), atom("b"))
		want := slices.Clone(two)
		for i := range one[:cap(one)] {
			one[:cap(one)][i] = bind("Changed", constant("changed"))
		}
		if !is || !slices.Equal(l, bindings("B b, D C, F C")) || !slices.Equal(two, want) {
			t.Errorf("Extend by %s shares memory: %v, %+v, %+v", pattern, is, l, two)
		}
	}
	atoms := []api.Atom{atom("a"), atom("b"), atom("c")}
	one, two := match.All(atom("X"), atoms), match.All(atom("X"), atoms)
	for i := range one[:cap(one)] {
		one[:cap(one)][i] = atom("changed")
	}
	if want := []api.Atom{atom("a"), atom("b"), atom("c")}; !slices.Equal(atoms, want) || !slices.Equal(two, want) {
		t.Errorf("All shares memory: %+v, %+v", atoms, two)
	}
}

// P5.1, P5.2: long lists end in reasonable time.
func TestLongLists(t *testing.T) {
	const n = 50000
	var l list
	var atoms []api.Atom
	for i := range n {
		l = append(l, bind("X"+strconv.Itoa(i+n), variable("Z"))) // all of one length, so ascending
		atoms = append(atoms, atom("c"+strconv.Itoa(i)+" d"))
	}
	got, is := match.Extend(l, atom("Z Y"), atom("a b"))
	if !is || len(got) != n+2 || got[0] != bind("X50000", constant("a")) || got[n] != bind("Y", constant("b")) || got[n+1] != bind("Z", constant("a")) {
		t.Errorf("Extend of a long list: %d bindings, %v", len(got), is)
	}
	if got := match.All(atom("X d"), atoms); !slices.Equal(got, atoms) {
		t.Errorf("All of a long list: %d atoms", len(got))
	}
}

// The chapter's words once more, as plainly as they can be written: by trying everything.

// rows returns all lists of n of the terms.
func rows(n int, terms ...api.Term) [][]api.Term {
	all := [][]api.Term{nil}
	for range n {
		var longer [][]api.Term
		for _, row := range all {
			for _, t := range terms {
				longer = append(longer, append(slices.Clone(row), t))
			}
		}
		all = longer
	}
	return all
}

// atoms returns the atoms of all rows of n of the terms.
func atoms(n int, terms ...api.Term) []api.Atom {
	var all []api.Atom
	for _, row := range rows(n, terms...) {
		all = append(all, laid(n, row...))
	}
	return all
}

// replaced puts the first N terms of an atom under a map.
func replaced(m map[string]api.Term, a api.Atom) []api.Term {
	var terms []api.Term
	for _, t := range a.Args[:a.N] {
		if to, is := m[t.Name]; is && t.Var {
			t = to
		}
		terms = append(terms, t)
	}
	return terms
}

// variables returns the names of the variables among the first N terms.
func variables(a api.Atom) []string {
	names := map[string]int{}
	for _, t := range a.Args[:a.N] {
		if t.Var {
			names[t.Name]++
		}
	}
	return slices.Sorted(maps.Keys(names))
}

// assignments returns all maps of the names to the terms.
func assignments(names []string, terms []api.Term) []map[string]api.Term {
	var all []map[string]api.Term
	for _, row := range rows(len(names), terms...) {
		m := map[string]api.Term{}
		for i, name := range names {
			m[name] = row[i]
		}
		all = append(all, m)
	}
	return all
}

// plainExtend tries all new bindings of the pattern's variables that are not bound to constants with a name.
func plainExtend(l list, pattern, ground api.Atom) (list, bool) {
	given := map[string]api.Term{}
	for _, b := range l {
		given[b.Var] = b.Term
	}
	var free []string
	for _, v := range variables(pattern) {
		if t, bound := given[v]; v == "" || t.Var {
			return nil, false
		} else if !bound {
			free = append(free, v)
		}
	}
	if subst.Check(l) != api.OK || len(variables(ground)) > 0 {
		return nil, false
	}
	for _, m := range assignments(free, []api.Term{constant("a"), constant("b"), constant("X")}) {
		for v, t := range given {
			if to, is := m[t.Name]; is && t.Var {
				t = to
			}
			m[v] = t
		}
		if slices.Equal(replaced(m, pattern), ground.Args[:ground.N]) {
			var all list
			for _, v := range slices.Sorted(maps.Keys(m)) {
				all = append(all, bind(v, m[v]))
			}
			return all, true
		}
	}
	return nil, false
}

// plainUnder tries all terms for the pattern's variables.
func plainUnder(a, pattern api.Atom) bool {
	for _, m := range assignments(variables(pattern), a.Args[:a.N]) {
		if slices.Equal(replaced(m, pattern), a.Args[:a.N]) {
			return true
		}
	}
	return false
}

// lists returns all lists of at most two of some bindings, valid or not.
func lists() []list {
	all := []list{nil}
	var some list
	for _, v := range []string{"", "X", "Y", "W"} {
		for _, t := range []api.Term{{}, constant("a"), constant("X"), variable("X"), variable("Y"), variable("Z")} {
			some = append(some, bind(v, t))
		}
	}
	for _, one := range some {
		all = append(all, list{one})
		for _, two := range some {
			all = append(all, list{one, two})
		}
	}
	return all
}

// P5.1: Extend agrees with the chapter's words on all small lists and atoms.
func TestExtendAgainstPlain(t *testing.T) {
	patterns := slices.Concat(atoms(0), atoms(1, api.Term{}, constant("a"), constant("X"), variable(""), variable("X"), variable("Z")),
		atoms(2, constant("a"), constant("X"), variable(""), variable("X"), variable("Y"), variable("Z")))
	ground := slices.Concat(atoms(0), atoms(1, api.Term{}, constant("a"), constant("X"), variable("X")),
		atoms(2, api.Term{}, constant("a"), constant("X"), variable("X")))
	matched := 0
	for _, l := range lists() {
		for _, p := range patterns {
			for _, g := range ground {
				var want list
				is := false
				if p.N == g.N {
					want, is = plainExtend(l, p, g)
				}
				if got, ok := match.Extend(l, p, g); ok != is || !slices.Equal(got, want) {
					t.Fatalf("Extend(%+v, %+v, %+v) = %+v, %v, not %+v", l, p, g, got, ok, want)
				} else if ok && subst.Check(got) != api.OK {
					t.Fatalf("Extend(%+v, %+v, %+v) = %+v", l, p, g, got)
				} else if ok {
					matched++
				}
			}
		}
	}
	if matched < 1000 {
		t.Errorf("only %d matched", matched)
	}
}

// P5.1, P5.2: Match, Under and All agree with the chapter's words on all atoms of three, and of four terms of some.
func TestAgainstPlain(t *testing.T) {
	three := []api.Term{constant("a"), variable("X"), variable("Y"), constant("X"), variable("")}
	four := []api.Term{constant("a"), constant("b"), variable("X"), variable("Y")}
	for _, all := range [][]api.Atom{atoms(3, three...), atoms(4, four...)} {
		for _, p := range all {
			var matched []api.Atom
			for _, a := range all {
				want, is := plainExtend(nil, p, a)
				if got, ok := match.Match(p, a); ok != is || !slices.Equal(got, want) {
					t.Fatalf("Match(%+v, %+v) = %+v, %v, not %+v", p, a, got, ok, want)
				}
				if got := match.Under(a, p); got != plainUnder(a, p) {
					t.Fatalf("Under(%+v, %+v) = %v", a, p, got)
				}
				if is {
					matched = append(matched, a)
				}
			}
			if got := match.All(p, all); !slices.Equal(got, matched) {
				t.Fatalf("All(%+v) = %+v, not %+v", p, got, matched)
			}
		}
	}
}

// P5.3: the pattern under what Match returns is the atom; that A matches a ground B is the same as that B is Under A.
func TestTheorems(t *testing.T) {
	terms := []api.Term{constant("a"), constant("b"), constant("c"), variable("X"), variable("Y"), variable("Z")}
	for n := range 4 {
		all := atoms(n, terms...)
		for _, p := range all {
			for _, a := range all {
				l, is := match.Match(p, a)
				if is && subst.Apply(l, p) != a {
					t.Fatalf("%s under %+v is not %s", term.Text(p), l, term.Text(a))
				}
				if term.Ground(a) && is != match.Under(a, p) {
					t.Fatalf("Match(%s, %s) = %v, Under is not", term.Text(p), term.Text(a), is)
				}
			}
		}
	}
}
