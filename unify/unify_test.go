package unify_test

import (
	"maps"
	"math"
	"slices"
	"strconv"
	"strings"
	"testing"

	"vouchsafe/api"
	"vouchsafe/subst"
	"vouchsafe/term"
	"vouchsafe/unify"
)

type list = []api.Binding

func constant(name string) api.Term { return api.Term{Name: name} }

func variable(name string) api.Term { return api.Term{Var: true, Name: name} }

func bind(v string, t api.Term) api.Binding { return api.Binding{Var: v, Term: t} }

// read reads a name: what begins with an uppercase letter is a variable.
func read(name string) api.Term {
	return api.Term{Var: name != "" && 'A' <= name[0] && name[0] <= 'Z', Name: name}
}

// bindings reads "X b, Y Z".
func bindings(text string) list {
	var l list
	for pair := range strings.SplitSeq(text, ", ") {
		if v, t, ok := strings.Cut(pair, " "); ok {
			l = append(l, bind(v, read(t)))
		}
	}
	return l
}

// laid lays the terms into the array; n is told apart from their number.
func laid(n int, terms ...api.Term) api.Atom {
	a := api.Atom{Says: "a", Pred: "p", N: n}
	for i, t := range terms {
		a.Args[i] = t
	}
	return a
}

// atom reads "X a b" as an atom of three terms.
func atom(names string) api.Atom {
	var terms []api.Term
	for name := range strings.FieldsSeq(names) {
		terms = append(terms, read(name))
	}
	return laid(len(terms), terms...)
}

// with returns an atom with another N.
func with(n int, a api.Atom) api.Atom {
	a.N = n
	return a
}

const none = "none" // for a case in which there are no bindings

// holds checks Unify and Meet for two atoms, in both orders: Unify is symmetric.
func holds(t *testing.T, a, b api.Atom, want list, is bool) {
	t.Helper()
	for _, two := range [][2]api.Atom{{a, b}, {b, a}} {
		if l, ok := unify.Unify(two[0], two[1]); ok != is || !slices.Equal(l, want) {
			t.Errorf("Unify(%+v, %+v) = %+v, %v", two[0], two[1], l, ok)
		}
		var meet api.Atom
		if is {
			meet = subst.Apply(want, two[0])
		}
		if m, ok := unify.Meet(two[0], two[1]); ok != is || m != meet {
			t.Errorf("Meet(%+v, %+v) = %+v, %v", two[0], two[1], m, ok)
		}
	}
}

// P6.1: the chapter's examples, each place, what is bound to what, and what does not unify.
func TestUnify(t *testing.T) {
	cases := []struct{ a, b, want string }{
		{"X b", "a Y", "X a, Y b"}, {"X Y", "Y a", "X a, Y a"},
		{"", "", ""}, {"a", "a", ""}, {"a", "b", none}, {"a b c d", "a b c d", ""}, {"X Y Z W", "X Y Z W", ""},
		{"a b c d", "e b c d", none}, {"a b c d", "a e c d", none}, {"a b c d", "a b e d", none}, {"a b c d", "a b c e", none},

		// A variable and a constant.
		{"X", "a", "X a"}, {"X X", "a a", "X a"}, {"X X", "a b", none}, {"X a", "b X", none}, {"X a", "a X", "X a"},
		{"X a", "b a", "X b"}, {"a X", "a b", "X b"}, {"a X", "b c", none}, {"X a", "b c", none}, {"a b c X", "a b c d", "X d"},
		{"X Y Z W", "a b c d", "W d, X a, Y b, Z c"}, {"a b c d", "X Y X Y", none}, {"a b a b", "X Y X Y", "X a, Y b"},
		{"X b Z d", "a Y c W", "W d, X a, Y b, Z c"}, {"X X X X", "a a a b", none}, {"X X X a", "X X X X", "X a"},

		// Two variables: the one with the greater name is bound.
		{"X", "X", ""}, {"X", "Y", "Y X"}, {"X", "XY", "XY X"}, {"X10", "X2", "X2 X10"}, {"Xa", "XA", "Xa XA"}, {"X#1", "X#2", "X#2 X#1"},
		{"X", "X#0", "X#0 X"}, {"Xé", "Xz", "Xé Xz"}, {"X\xff", "Xé", "X\xff Xé"}, {"X_", "XZ", "X_ XZ"}, {"Z", "Aa", "Z Aa"},
		{"X Y", "Y X", "Y X"}, {"X Y", "Z W", "Y W, Z X"}, {"X Y", "Z Z", "Y X, Z X"}, {"X Z", "Y Y", "Y X, Z X"}, {"Y Z", "X X", "Y X, Z X"},
		{"Z Y", "Y X", "Y X, Z X"}, {"Y X", "Z Y", "Y X, Z X"}, {"Z Z", "Y X", "Y X, Z X"}, {"X Y Z", "Y Z W", "X W, Y W, Z W"},
		{"X Z X", "Y W Z", "X W, Y W, Z W"}, {"D C B A", "C B A D", "B A, C A, D A"}, {"X X Y Y", "Y Z Z W", "X W, Y W, Z W"},

		// What was bound before is taken under the bindings, and comes under the new ones.
		{"X Y Z", "Y Z a", "X a, Y a, Z a"}, {"X Y a", "Y a X", "X a, Y a"}, {"a X Y", "X Y Z", "X a, Y a, Z a"}, {"X Y X", "Y X a", "X a, Y a"},
		{"X Y X", "Y a b", none}, {"X Y Z a", "Y Z X X", "X a, Y a, Z a"}, {"X Y a b", "Y Z X Z", none}, {"X Z Y a", "Y W Z W", "W a, X a, Y a, Z a"},
		{"X X a", "Y Z Z", "X a, Y a, Z a"}, {"X X Y", "a Y b", none}, {"X X Y", "a Y a", "X a, Y a"}, {"a Y a", "X X Y", "X a, Y a"},

		{"X", "", none}, {"X", "X Y", none}, {"a", "", none}, {"a b", "a", none}, {"X Y Z", "X Y Z W", none},
	}
	for _, c := range cases {
		holds(t, atom(c.a), atom(c.b), bindings(c.want), c.want != none)
	}
	// A variable is not the constant of its name.
	holds(t, atom("X"), laid(1, constant("X")), list{bind("X", constant("X"))}, true)
	holds(t, atom("X Y"), laid(2, constant("Y"), constant("X")), list{bind("X", constant("Y")), bind("Y", constant("X"))}, true)
	holds(t, atom("X X"), laid(2, constant("X"), variable("Y")), list{bind("X", constant("X")), bind("Y", constant("X"))}, true)
	holds(t, laid(1, constant("X")), laid(1, constant("Y")), nil, false)
	holds(t, atom("X X"), laid(2, constant("X"), constant("Y")), nil, false)
	holds(t, laid(2, variable("a"), variable("b")), atom("a a"), list{bind("a", constant("a")), bind("b", constant("a"))}, true)
	holds(t, laid(1, variable("a")), atom("X"), list{bind("a", variable("X"))}, true)
}

// P6.1: Says and Pred have to be the same, by bytes, and N, from 0 to 4; they need not be those of a valid atom.
func TestHeads(t *testing.T) {
	named := func(says, pred string, n int) api.Atom {
		return api.Atom{Says: says, Pred: pred, N: n, Args: [4]api.Term{constant("a"), constant("a"), constant("a"), constant("a")}}
	}
	cases := []struct {
		a, b api.Atom
		want bool
	}{
		{named("a", "p", 2), named("a", "p", 2), true}, {named("a", "p", 0), named("a", "p", 0), true},
		{named("a", "p", 4), named("a", "p", 4), true}, {api.Atom{}, api.Atom{}, true},
		{named("", "", 1), named("", "", 1), true}, {named("A b", "says", 1), named("A b", "says", 1), true},
		{named("a", "p", 2), named("b", "p", 2), false}, {named("a", "p", 2), named("a", "q", 2), false},
		{named("a", "p", 2), named("p", "a", 2), false}, {named("ap", "", 1), named("a", "p", 1), false},
		{named("a", "p", 2), named("a", "p", 1), false}, {named("a", "p", 0), named("a", "p", -1), false},
		{named("a", "p", 4), named("a", "p", 5), false}, {named("a", "p", 0), named("a", "p", 4), false},
		{named("a", "p", -1), named("a", "p", -1), false}, {named("a", "p", 5), named("a", "p", 5), false},
		{named("a", "p", math.MinInt), named("a", "p", math.MinInt), false},
		{named("a", "p", math.MaxInt), named("a", "p", math.MaxInt), false},
	}
	for _, c := range cases {
		holds(t, c.a, c.b, nil, c.want)
	}
}

// P6.1: terms after the first N do not matter: they are neither unified nor, in what Meet returns, replaced.
func TestTermsAfter(t *testing.T) {
	cases := []struct {
		a, b api.Atom
		want string
	}{
		{with(1, atom("X X")), with(1, atom("a b")), "X a"}, {with(1, atom("a X")), with(1, atom("a b c d")), ""},
		{with(0, atom("a")), with(0, atom("b")), ""}, {with(0, atom("X")), with(0, atom("a")), ""},
		{with(3, atom("X Y X X")), with(3, atom("a b a b")), "X a, Y b"}, {with(3, atom("X Y X X")), with(3, atom("a b b a")), none},
		{with(2, atom("X Y Y a")), with(2, atom("Y a b X")), "X a, Y a"}, {with(1, laid(1, variable("X"), variable(""))), atom("a"), "X a"},
		{with(3, atom("a b c X")), with(3, atom("a b c d")), ""},
	}
	for _, c := range cases {
		holds(t, c.a, c.b, bindings(c.want), c.want != none)
	}
	if m, is := unify.Meet(with(1, atom("X X Y b")), with(1, atom("a b"))); !is || m != with(1, atom("a X Y b")) {
		t.Errorf("Meet: %+v, %v", m, is)
	}
}

// P6.1: a variable without a name is not bound, nor is one bound to a term without a name; if they are equal, nothing has to be bound.
func TestNoNames(t *testing.T) {
	cases := []struct {
		what string
		a, b api.Atom
		want string
	}{
		{"a variable without a name and a constant", laid(1, variable("")), atom("a"), none},
		{"a variable without a name and another", laid(1, variable("")), atom("X"), none},
		{"a variable without a name and a constant without one", laid(1, variable("")), laid(1, constant("")), none},
		{"a variable and a constant without a name", atom("X"), laid(1, constant("")), none},
		{"a constant and one without a name", atom("a"), laid(1, constant("")), none},
		{"two variables without names", laid(1, variable("")), laid(1, variable("")), ""},
		{"two constants without names", laid(1, constant("")), laid(1, constant("")), ""},
		{"two without names, and then others", laid(3, variable(""), constant(""), variable("X")), laid(3, variable(""), constant(""), constant("a")), "X a"},
		{"one after a variable", laid(2, variable("X"), variable("")), atom("a b"), none},
		{"one before a variable", laid(2, variable(""), variable("X")), atom("a b"), none},
		{"a bound one at a term without a name", atom("X X"), laid(2, constant("a"), constant("")), none},
		{"a bound one at a variable without a name", atom("X X"), laid(2, variable("Y"), variable("")), none},
		{"the last one", laid(4, variable("X"), variable("Y"), variable("Z"), variable("")), atom("a b c d"), none},
	}
	for _, c := range cases {
		t.Run(c.what, func(t *testing.T) { holds(t, c.a, c.b, bindings(c.want), c.want != none) })
	}
}

// P6.1: Meet returns a under the bindings, which is b under them.
func TestMeet(t *testing.T) {
	cases := []struct{ a, b, want string }{
		{"X b", "a Y", "a b"}, {"X Y", "Y a", "a a"}, {"", "", ""}, {"a", "a", "a"}, {"X", "Y", "X"}, {"X Y", "Z Z", "X X"},
		{"X Y Z", "Y Z W", "W W W"}, {"X Y Z W", "a W b Y", "a W b W"}, {"X a", "X a", "X a"}, {"a", "b", none}, {"X X", "a b", none}, {"X", "X Y", none},
	}
	for _, c := range cases {
		var want api.Atom
		if c.want != none {
			want = atom(c.want)
		}
		if m, is := unify.Meet(atom(c.a), atom(c.b)); is != (c.want != none) || m != want {
			t.Errorf("Meet(%s; %s) = %+v, %v", c.a, c.b, m, is)
		}
		if m, is := unify.Meet(atom(c.b), atom(c.a)); is != (c.want != none) || m != want {
			t.Errorf("Meet(%s; %s) = %+v, %v", c.b, c.a, m, is)
		}
	}
}

// P6.2: Rename marks the variables among the first N terms, and nothing else.
func TestRename(t *testing.T) {
	odd := api.Atom{Says: "X", Pred: "Y", N: 2, Args: [4]api.Term{constant("X"), variable("x y")}}
	marked := odd
	marked.Args[1].Name = "x y#3"
	cases := []struct {
		a    api.Atom
		mark int
		want api.Atom
	}{
		{atom("X"), 7, atom("X#7")}, {atom("X"), 0, atom("X#0")}, {atom("X"), 10, atom("X#10")}, {atom("X"), 1000000000, atom("X#1000000000")},
		{atom("X"), math.MaxInt, atom("X#" + strconv.Itoa(math.MaxInt))}, {atom("X"), -1, atom("X")}, {atom("X Y"), math.MinInt, atom("X Y")},
		{atom(""), 1, atom("")}, {atom("a b"), 1, atom("a b")}, {atom("X a Y X"), 12, atom("X#12 a Y#12 X#12")}, {atom("a b c X"), 2, atom("a b c X#2")},
		{atom("X#1 Y#"), 2, atom("X#1#2 Y##2")}, {laid(1, variable("")), 5, laid(1, variable("#5"))}, {laid(1, constant("")), 5, laid(1, constant(""))},
		{odd, 3, marked}, {with(1, atom("X Y")), 1, with(1, atom("X#1 Y"))}, {with(0, atom("X Y")), 1, with(0, atom("X Y"))},
		{with(3, atom("X Y Z W")), 1, with(3, atom("X#1 Y#1 Z#1 W"))}, {with(-1, atom("X")), 1, with(-1, atom("X"))},
		{with(math.MinInt, atom("X")), 1, with(math.MinInt, atom("X"))}, {with(5, atom("X a Y Z")), 1, with(5, atom("X#1 a Y#1 Z#1"))},
		{with(math.MaxInt, atom("X a Y Z")), 0, with(math.MaxInt, atom("X#0 a Y#0 Z#0"))}, {with(5, atom("X")), -1, with(5, atom("X"))},
	}
	for _, c := range cases {
		if got := unify.Rename(c.a, c.mark); got != c.want {
			t.Errorf("Rename(%+v, %d) = %+v", c.a, c.mark, got)
		}
	}
}

// P6.2: Marked reads a name, #, and digits without a leading zero.
func TestMarked(t *testing.T) {
	cases := []struct {
		v, name string
		mark    int
	}{
		{"X#7", "X", 7}, {"X#0", "X", 0}, {"X#1", "X", 1}, {"X#9", "X", 9}, {"X#10", "X", 10}, {"X#101", "X", 101}, {"Xyz_1#42", "Xyz_1", 42},
		{"X#99999999", "X", 99999999}, {"X#100000000", "X", 100000000}, {"X#999999999", "X", 999999999}, {"X#2147483", "X", 2147483},
		{"X#1#2", "X#1", 2}, {"X#x#2", "X#x", 2}, {"X##2", "X#", 2}, {"##2", "#", 2}, {"###2", "##", 2}, {"#1#2", "#1", 2}, {"x#1", "x", 1}, {" #1", " ", 1},
		{"\xff#1", "\xff", 1}, {"\x00#1", "\x00", 1}, {"é#30", "é", 30}, {"0#0", "0", 0}, {"X#01#1", "X#01", 1},
	}
	for _, c := range cases {
		if name, mark, is := unify.Marked(c.v); !is || name != c.name || mark != c.mark {
			t.Errorf("Marked(%q) = %q, %d, %v", c.v, name, mark, is)
		}
	}
	not := []string{
		"", "X", "#", "#7", "#0", "X#", "X##", "X#1#", "X7", "X#07", "X#00", "X#000", "X#-7", "X#+7", "X#-0", "X#+0", "X#-", "X#+", "X#7 ", "X# 7",
		"X#1000000000", "X#9999999999", "X#0000000001", "X#000000001", "X#" + strconv.Itoa(math.MaxInt), "X#" + strings.Repeat("9", 20), "X#" + strings.Repeat("1", 100000),
		"X#7a", "X#a", "X#a7", "X#0x7", "X#0b1", "X#0o7", "X#1_0", "X#1_000", "X#1e3", "X#1.0", "X#١", "X#１", "X#7\x00", "X#\x007", "X#7\n", "X#1#x", "X#1#07", "X#1#-1", "7", "7#",
	}
	for _, v := range not {
		if name, mark, is := unify.Marked(v); is || name != "" || mark != 0 {
			t.Errorf("Marked(%q) = %q, %d, %v", v, name, mark, is)
		}
	}
}

// P6.2: each byte after the #, alone and beside a digit: only digits make a mark.
func TestMarkedBytes(t *testing.T) {
	for b := range 256 {
		one := string([]byte{byte(b)})
		digit := '0' <= b && b <= '9'
		if name, mark, is := unify.Marked("X#" + one); is != digit || digit && (name != "X" || mark != b-'0') {
			t.Errorf("Marked(X#, byte %d) = %q, %d, %v", b, name, mark, is)
		}
		if _, mark, is := unify.Marked("X#1" + one); is != digit || digit && mark != 10+b-'0' {
			t.Errorf("Marked(X#1, byte %d) = %d, %v", b, mark, is)
		}
		if _, mark, is := unify.Marked("X#" + one + "1"); is != ('1' <= b && b <= '9' || b == '#') || '1' <= b && b <= '9' && mark != 10*(b-'0')+1 {
			t.Errorf("Marked(X#, byte %d, 1) = %d, %v", b, mark, is)
		}
		if name, mark, is := unify.Marked(one + "#1"); !is || name != one || mark != 1 {
			t.Errorf("Marked(byte %d, #1) = %q, %d, %v", b, name, mark, is)
		}
	}
}

// P6.2: what Rename marks, Marked reads back, if the mark has at most 9 digits and the variable a name.
func TestMarksAreReadBack(t *testing.T) {
	for _, name := range []string{"X", "X#1", "#", "x", strings.Repeat("X", 255)} {
		for mark := 0; mark <= 999999999; mark = mark*3/2 + 1 {
			v := unify.Rename(laid(1, variable(name)), mark).Args[0].Name
			if n, m, is := unify.Marked(v); !is || n != name || m != mark {
				t.Fatalf("Marked(%q) = %q, %d, %v", v, n, m, is)
			}
		}
		for _, mark := range []int{1000000000, 4294967296, math.MaxInt} {
			if n, m, is := unify.Marked(unify.Rename(laid(1, variable(name)), mark).Args[0].Name); is || n != "" || m != 0 {
				t.Fatalf("Marked of %s with mark %d = %q, %d, %v", name, mark, n, m, is)
			}
		}
	}
	// So two atoms with different marks have no variable in common.
	if l, is := unify.Unify(unify.Rename(atom("X Y"), 1), unify.Rename(atom("Y a"), 2)); !is || !slices.Equal(l, bindings("Y#1 a, Y#2 X#1")) {
		t.Errorf("Unify with marks: %+v, %v", l, is)
	}
}

// Rule 3: a result is new memory with its spare capacity: to write there changes no other result.
func TestResultsAreNew(t *testing.T) {
	for _, two := range [][2]string{{"X", "a"}, {"X Y Z", "Y Z a"}, {"X Y Z W", "a b c d"}, {"a", "a"}} {
		one, is := unify.Unify(atom(two[0]), atom(two[1]))
		other, _ := unify.Unify(atom(two[0]), atom(two[1]))
		want := slices.Clone(other)
		for i := range one[:cap(one)] {
			one[:cap(one)][i] = bind("Changed", constant("changed"))
		}
		if again, _ := unify.Unify(atom(two[0]), atom(two[1])); !is || !slices.Equal(other, want) || !slices.Equal(again, want) {
			t.Errorf("Unify(%s; %s) shares memory: %+v, %+v", two[0], two[1], other, again)
		}
	}
}

// The chapter's words once more, as plainly as they can be written.

// rows returns all lists of n of the terms.
func rows(n int, terms ...api.Term) [][]api.Term {
	all := [][]api.Term{nil}
	for range n {
		var longer [][]api.Term
		for _, row := range all {
			for _, t := range terms {
				longer = append(longer, append(slices.Clone(row), t))
			}
		}
		all = longer
	}
	return all
}

// atoms returns the atoms of all rows of n of the terms.
func atoms(n int, terms ...api.Term) []api.Atom {
	var all []api.Atom
	for _, row := range rows(n, terms...) {
		all = append(all, laid(n, row...))
	}
	return all
}

// classes returns the terms of both atoms, those together that have to become equal.
func classes(a, b api.Atom) [][]api.Term {
	var all [][]api.Term
	for i := range a.N {
		joined := []api.Term{a.Args[i], b.Args[i]}
		var apart [][]api.Term
		for _, class := range all {
			if slices.Contains(class, a.Args[i]) || slices.Contains(class, b.Args[i]) {
				joined = append(joined, class...)
			} else {
				apart = append(apart, class)
			}
		}
		all = append(apart, joined)
	}
	return all
}

// chosen returns what all terms of a class become: its constant, otherwise the variable with the least name.
func chosen(class []api.Term) (api.Term, bool) {
	best := class[0]
	for _, t := range class[1:] {
		switch {
		case t == best:
		case !t.Var && !best.Var || t.Name == "" || best.Name == "":
			return api.Term{}, false
		case !t.Var || best.Var && t.Name < best.Name:
			best = t
		}
	}
	return best, true
}

// plainUnify chooses what each class becomes.
func plainUnify(a, b api.Atom) (list, bool) {
	all := map[string]api.Term{}
	for _, class := range classes(a, b) {
		best, is := chosen(class)
		if !is {
			return nil, false
		}
		for _, t := range class {
			if t != best {
				all[t.Name] = best
			}
		}
	}
	var l list
	for _, v := range slices.Sorted(maps.Keys(all)) {
		l = append(l, bind(v, all[v]))
	}
	return l, true
}

// P6.1: Unify agrees with the chapter's words on all small atoms, valid or not.
func TestAgainstPlain(t *testing.T) {
	some := [][]api.Atom{
		atoms(0), atoms(1, variable(""), constant(""), variable("X"), constant("X"), variable("Y"), constant("a")),
		atoms(2, variable(""), constant(""), variable("X"), constant("X"), variable("Y"), variable("Z"), constant("a")),
		atoms(3, variable(""), constant(""), variable("X"), constant("X"), variable("Y"), variable("Z")),
		atoms(4, constant("a"), constant("b"), variable("X"), variable("Y"), variable("Z")),
	}
	unified := 0
	for _, all := range some {
		for _, a := range all {
			for _, b := range all {
				want, is := plainUnify(a, b)
				l, ok := unify.Unify(a, b)
				if ok != is || !slices.Equal(l, want) {
					t.Fatalf("Unify(%+v, %+v) = %+v, %v, not %+v", a, b, l, ok, want)
				}
				if is {
					unified++
				}
			}
		}
	}
	if unified < 10000 {
		t.Errorf("only %d unified", unified)
	}
}

// replaced returns a term under a map.
func replaced(m map[string]api.Term, t api.Term) api.Term {
	if to, is := m[t.Name]; is && t.Var {
		return to
	}
	return t
}

// equalUnder reports whether a map makes the first N terms of both equal.
func equalUnder(m map[string]api.Term, a, b api.Atom) bool {
	for i := range a.N {
		if replaced(m, a.Args[i]) != replaced(m, b.Args[i]) {
			return false
		}
	}
	return true
}

// P6.3: the bindings are valid and make both equal; all that make both equal are special cases of them: what they do after these is what they do alone.
func TestMostGeneral(t *testing.T) {
	variables := []string{"X", "Y", "Z"}
	var replacements []map[string]api.Term
	for _, row := range rows(len(variables), constant("a"), constant("b"), constant("c"), variable("X"), variable("Y"), variable("V"), variable("W")) {
		m := map[string]api.Term{}
		for i, v := range variables {
			m[v] = row[i]
		}
		replacements = append(replacements, m)
	}
	for n := range 4 {
		all := atoms(n, constant("a"), constant("b"), variable("X"), variable("Y"), variable("Z"))
		for _, a := range all {
			for _, b := range all {
				l, is := unify.Unify(a, b)
				if m, ok := unify.Meet(a, b); is && (subst.Check(l) != api.OK || subst.Apply(l, b) != m || term.Check(m) != api.OK) || ok != is {
					t.Fatalf("%s and %s: %+v, Meet %s", term.Text(a), term.Text(b), l, term.Text(m))
				}
				for _, m := range replacements {
					differs := func(b api.Binding) bool { return replaced(m, b.Term) != m[b.Var] }
					if equalUnder(m, a, b) && (!is || slices.ContainsFunc(l, differs)) {
						t.Fatalf("%s and %s: %+v, but also %+v", term.Text(a), term.Text(b), l, m)
					}
				}
			}
		}
	}
}

// P6.3: Unify is symmetric, on all atoms of three terms, valid or not.
func TestSymmetric(t *testing.T) {
	all := atoms(3, constant("a"), constant(""), constant("X"), variable(""), variable("X"), variable("Y"), variable("X#1"))
	for _, a := range all {
		for _, b := range all {
			l, is := unify.Unify(a, b)
			if m, ok := unify.Unify(b, a); ok != is || !slices.Equal(l, m) {
				t.Fatalf("Unify(%+v, %+v) = %+v, %v; the other way %+v, %v", a, b, l, is, m, ok)
			}
		}
	}
}
