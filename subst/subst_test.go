package subst_test

import (
	"math"
	"slices"
	"strconv"
	"strings"
	"testing"

	"vouchsafe/api"
	"vouchsafe/subst"
	"vouchsafe/term"
)

type list = []api.Binding

func constant(name string) api.Term { return api.Term{Name: name} }

func variable(name string) api.Term { return api.Term{Var: true, Name: name} }

func bind(v string, t api.Term) api.Binding { return api.Binding{Var: v, Term: t} }

// bindings reads "X b, Y Z": what begins with an uppercase letter is a variable.
func bindings(text string) list {
	var l list
	for pair := range strings.SplitSeq(text, ", ") {
		if v, t, ok := strings.Cut(pair, " "); ok {
			l = append(l, bind(v, read(t)))
		}
	}
	return l
}

func read(name string) api.Term {
	return api.Term{Var: name != "" && 'A' <= name[0] && name[0] <= 'Z', Name: name}
}

// atom lays the terms into the array; n is told apart from their number.
func atom(n int, names ...string) api.Atom {
	a := api.Atom{Says: "a", Pred: "p", N: n}
	for i, name := range names {
		a.Args[i] = read(name)
	}
	return a
}

// P4.1: Check, with valid lists, and with each condition broken.
func TestCheck(t *testing.T) {
	cases := []struct {
		l    list
		want api.Errno
	}{
		{nil, api.OK}, {list{}, api.OK}, {bindings("X a"), api.OK}, {bindings("X Y"), api.OK},
		{bindings("X b, Y Z"), api.OK}, {bindings("X a, Y a, Z a"), api.OK}, {bindings("X Z, Y Z"), api.OK},
		{bindings("X A, Y Z, Ya b"), api.OK}, {bindings("X X1, Xa XA"), api.OK},

		// Names need not be valid spellings, and a constant may have the name of a variable that is bound.
		{bindings("X#1 Y#2, X#2 a"), api.OK}, {list{bind("x", variable("y")), bind("é ", constant("\xff"))}, api.OK},
		{list{bind("X", constant("X"))}, api.OK}, {list{bind("X", constant("Y")), bind("Y", constant("X"))}, api.OK},
		{list{bind("", constant("a")), bind("X", constant("b"))}, api.OK},
		{list{bind(strings.Repeat("X", 300), constant(strings.Repeat("a", 300)))}, api.OK},
		{bindings("X says"), api.OK},

		{bindings("Y a, X a"), api.ErrBad}, {bindings("X a, X a"), api.ErrBad}, {bindings("X a, X b"), api.ErrBad},
		{bindings("X a, Z a, Y a"), api.ErrBad}, {bindings("X a, Y a, Y a"), api.ErrBad},
		{bindings("Y a, X a, Z a"), api.ErrBad}, {bindings("X a, XA a, X a"), api.ErrBad},
		{bindings("Xa a, XZ a"), api.ErrBad}, {bindings("X2 a, X10 a"), api.ErrBad}, {bindings("X10 a, X2 a"), api.OK},
		{list{bind("", constant("a")), bind("", constant("a"))}, api.ErrBad},

		{bindings("X X"), api.ErrBad}, {bindings("X Y, Y a"), api.ErrBad}, {bindings("X a, Y X"), api.ErrBad},
		{bindings("X a, Y Y"), api.ErrBad}, {bindings("X a, Y a, Z X"), api.ErrBad}, {bindings("X a, Y Z, Z a"), api.ErrBad},
		{bindings("X Z, Y a, Z a"), api.ErrBad},

		{list{bind("X", api.Term{})}, api.ErrBad}, {list{bind("X", variable(""))}, api.ErrBad}, {list{{}}, api.ErrBad},
		{list{bind("", variable(""))}, api.ErrBad},
		{list{bind("X", constant("a")), bind("Y", constant(""))}, api.ErrBad},
		{list{bind("X", constant("")), bind("Y", constant("a"))}, api.ErrBad},
	}
	for _, c := range cases {
		if got := subst.Check(c.l); got != c.want {
			t.Errorf("Check(%+v) = %d, not %d", c.l, got, c.want)
		}
	}
}

// P4.1: Get, of valid lists and of any others: the first element with that Var counts.
func TestGet(t *testing.T) {
	cases := []struct {
		l    list
		v    string
		want api.Term
		is   bool
	}{
		{nil, "X", api.Term{}, false}, {nil, "", api.Term{}, false},
		{bindings("X b, Y Z"), "X", constant("b"), true}, {bindings("X b, Y Z"), "Y", variable("Z"), true},
		{bindings("X b, Y Z"), "Z", api.Term{}, false}, {bindings("X b, Y Z"), "A", api.Term{}, false},
		{bindings("X b, Y Z"), "XY", api.Term{}, false}, {bindings("X b, Y Z"), "b", api.Term{}, false},
		{bindings("X b, Y Z"), "", api.Term{}, false}, {bindings("X b, Y Z"), "x", api.Term{}, false},
		{bindings("A a, B b, C c, D d, E e"), "A", constant("a"), true},
		{bindings("A a, B b, C c, D d, E e"), "D", constant("d"), true},
		{bindings("A a, B b, C c, D d, E e"), "E", constant("e"), true},

		{bindings("Y a, X b"), "X", constant("b"), true}, {bindings("Y a, X b"), "Y", constant("a"), true},
		{bindings("E e, D d, C c, B b, A a"), "E", constant("e"), true},
		{bindings("E e, D d, C c, B b, A a"), "B", constant("b"), true},
		{bindings("E e, D d, C c, B b, A a"), "A", constant("a"), true},
		{bindings("X a, X b"), "X", constant("a"), true}, {bindings("X a, X b, X c, X d"), "X", constant("a"), true},
		{bindings("X a, Y b, X c"), "X", constant("a"), true}, {bindings("Z a, X b, Y c, X d, Z e"), "Z", constant("a"), true},
		{bindings("Z a, X b, Y c, X d, Z e"), "X", constant("b"), true}, {bindings("Z a, X b, Y c, X d, Z e"), "W", api.Term{}, false},
		{bindings("X X"), "X", variable("X"), true}, {bindings("X Y, Y a"), "X", variable("Y"), true},

		{list{bind("", constant("a"))}, "", constant("a"), true}, {list{bind("X", api.Term{})}, "X", api.Term{}, true},
		{list{bind("X", constant("a")), bind("", variable("Y"))}, "", variable("Y"), true},
		{list{bind("X", api.Term{}), bind("X", constant("a"))}, "X", api.Term{}, true},
	}
	for _, c := range cases {
		if got, is := subst.Get(c.l, c.v); got != c.want || is != c.is {
			t.Errorf("Get(%+v, %q) = %+v, %v", c.l, c.v, got, is)
		}
	}
}

// P4.1: Term replaces a variable that is bound, once, and nothing else.
func TestTerm(t *testing.T) {
	cases := []struct {
		l       list
		t, want api.Term
	}{
		{nil, variable("X"), variable("X")}, {nil, constant("a"), constant("a")}, {nil, api.Term{}, api.Term{}},
		{bindings("X b, Y Z"), variable("X"), constant("b")}, {bindings("X b, Y Z"), variable("Y"), variable("Z")},
		{bindings("X b, Y Z"), variable("Z"), variable("Z")}, {bindings("X b, Y Z"), constant("b"), constant("b")},
		{bindings("X b"), constant("X"), constant("X")}, {bindings("X b"), variable("b"), variable("b")},
		{bindings("X Y, Y a"), variable("X"), variable("Y")}, {bindings("Y a, X Y"), variable("X"), variable("Y")},
		{bindings("X X"), variable("X"), variable("X")}, {bindings("X a, X b"), variable("X"), constant("a")},
		{bindings("Y a, X b"), variable("X"), constant("b")},
		{list{bind("", constant("a"))}, variable(""), constant("a")}, {list{bind("", constant("a"))}, api.Term{}, api.Term{}},
		{list{bind("X", api.Term{})}, variable("X"), api.Term{}}, {bindings("X b"), variable(""), variable("")},
	}
	for _, c := range cases {
		if got := subst.Term(c.l, c.t); got != c.want {
			t.Errorf("Term(%+v, %+v) = %+v", c.l, c.t, got)
		}
	}
}

// P4.1: Apply, with the chapter's example, replaces the first N terms, once, and nothing else.
func TestApply(t *testing.T) {
	cases := []struct {
		l       list
		a, want api.Atom
	}{
		{bindings("X b, Y Z"), atom(3, "X", "Y", "a"), atom(3, "b", "Z", "a")},
		{nil, atom(3, "X", "Y", "a"), atom(3, "X", "Y", "a")}, {bindings("X b"), atom(0), atom(0)},
		{bindings("X b"), atom(1, "X"), atom(1, "b")}, {bindings("X b"), atom(4, "X", "X", "Y", "X"), atom(4, "b", "b", "Y", "b")},
		{bindings("X b"), atom(2, "X", "Y", "X", "X"), atom(2, "b", "Y", "X", "X")},
		{bindings("X b"), atom(3, "X", "X", "X", "X"), atom(3, "b", "b", "b", "X")},
		{bindings("X b"), atom(0, "X", "X", "X", "X"), atom(0, "X", "X", "X", "X")},
		{bindings("X b"), atom(-1, "X", "X", "X", "X"), atom(-1, "X", "X", "X", "X")},
		{bindings("X b"), atom(math.MinInt, "X"), atom(math.MinInt, "X")},
		{bindings("X b"), atom(5, "X", "X", "X", "X"), atom(5, "b", "b", "b", "b")},
		{bindings("X b"), atom(math.MaxInt, "a", "X"), atom(math.MaxInt, "a", "b")},
		{bindings("X Y, Y X"), atom(2, "X", "Y"), atom(2, "Y", "X")},
		{bindings("Y a, X Y"), atom(2, "X", "Y"), atom(2, "Y", "a")},
		{bindings("X a, X b"), atom(1, "X"), atom(1, "a")},
		{list{bind("X", api.Term{})}, atom(1, "X"), atom(1)},
	}
	for _, c := range cases {
		if got := subst.Apply(c.l, c.a); got != c.want {
			t.Errorf("Apply(%+v, %+v) = %+v", c.l, c.a, got)
		}
	}
	odd := api.Atom{Says: "Not #", Pred: "", N: 1, Args: [4]api.Term{variable("X"), variable("X")}}
	want := api.Atom{Says: "Not #", Pred: "", N: 1, Args: [4]api.Term{constant("a"), variable("X")}}
	if got := subst.Apply(bindings("Not b, X a"), odd); got != want {
		t.Errorf("Apply to an atom that is not valid: %+v", got)
	}
}

// P4.2: Bind, with v at each place, and what it does to t and to the others.
func TestBind(t *testing.T) {
	cases := []struct {
		l    string
		v    string
		t    string
		want string
	}{
		{"", "X", "a", "X a"}, {"", "X", "Y", "X Y"},
		{"X b, Y Z", "Z", "b", "X b, Y b, Z b"}, {"X b, Y Z", "Z", "W", "X b, Y W, Z W"},
		{"X b, Y Z", "A", "a", "A a, X b, Y Z"}, {"X b, Y Z", "Xa", "a", "X b, Xa a, Y Z"},
		{"X b, Y Z", "Za", "Z", "X b, Y Z, Za Z"}, {"X b, Y Z", "Z", "Q", "X b, Y Q, Z Q"},
		{"X b, Y Z", "A", "X", "A b, X b, Y Z"}, {"X b, Y Z", "A", "Y", "A Z, X b, Y Z"},
		{"X Z, Y Z", "Z", "a", "X a, Y a, Z a"}, {"X Z, Y W", "Z", "W", "X W, Y W, Z W"},
		{"X Z, Y W", "Z", "Y", "X W, Y W, Z W"}, {"X#1 a", "X", "X#1", "X a, X#1 a"},
		{"X#1 X", "X", "says", "X says, X#1 says"},
	}
	for _, c := range cases {
		if got, e := subst.Bind(bindings(c.l), c.v, read(c.t)); !slices.Equal(got, bindings(c.want)) || e != api.OK {
			t.Errorf("Bind(%s; %s, %s) = %+v, %d", c.l, c.v, c.t, got, e)
		}
	}
	// Only the variable v is replaced, not a constant of its name.
	l := list{bind("X", constant("Z")), bind("Y", variable("Z"))}
	want := list{bind("X", constant("Z")), bind("Y", constant("Z")), bind("Z", constant("Z"))}
	if got, e := subst.Bind(l, "Z", constant("Z")); !slices.Equal(got, want) || e != api.OK {
		t.Errorf("Bind to a constant of the same name: %+v, %d", got, e)
	}
}

// P4.2: each error of Bind, and of several the first one in the order of the promise; no list together with one.
func TestBindErrors(t *testing.T) {
	good, bad := bindings("X b, Y Z"), bindings("Y a, X b")
	cases := []struct {
		l    list
		v    string
		t    api.Term
		want api.Errno
	}{
		{bad, "Z", constant("a"), api.ErrBad}, {bindings("X X"), "Z", constant("a"), api.ErrBad},
		{list{bind("X", api.Term{})}, "Z", constant("a"), api.ErrBad},
		{bad, "", constant("a"), api.ErrBad}, {bad, "Z", api.Term{}, api.ErrBad}, {bad, "X", constant("a"), api.ErrBad},
		{bad, "Z", variable("Z"), api.ErrBad},

		{good, "", constant("a"), api.ErrArg}, {good, "Z", api.Term{}, api.ErrArg}, {good, "Z", variable(""), api.ErrArg},
		{nil, "", api.Term{}, api.ErrArg}, {good, "X", api.Term{}, api.ErrArg}, {good, "X", variable(""), api.ErrArg},
		{list{bind("", constant("a"))}, "", constant("a"), api.ErrArg},

		{good, "X", constant("b"), api.ErrTwice}, {good, "Y", constant("a"), api.ErrTwice},
		{good, "X", variable("X"), api.ErrTwice}, {good, "Y", variable("Z"), api.ErrTwice},

		{good, "Z", variable("Z"), api.ErrArg}, {good, "Z", variable("Y"), api.ErrArg}, {nil, "X", variable("X"), api.ErrArg},
		{good, "Z", constant("Z"), api.OK}, {good, "W", variable("Z"), api.OK},
	}
	for _, c := range cases {
		got, e := subst.Bind(c.l, c.v, c.t)
		if e != c.want {
			t.Errorf("Bind(%+v, %q, %+v): %d, not %d", c.l, c.v, c.t, e, c.want)
		}
		if e != api.OK && got != nil {
			t.Errorf("Bind(%+v, %q, %+v): %+v with an error", c.l, c.v, c.t, got)
		}
	}
}

// P4.2: Compose, with what is under b, taken from b, bound by both, or bound to itself then.
func TestCompose(t *testing.T) {
	cases := []struct{ a, b, want string }{
		{"", "", ""}, {"X a", "", "X a"}, {"", "X a", "X a"}, {"X b, Y Z", "", "X b, Y Z"}, {"", "X b, Y Z", "X b, Y Z"},
		{"X Y", "Y a", "X a, Y a"}, {"X b, Y Z", "Z b", "X b, Y b, Z b"}, {"X b, Y Z", "Z W", "X b, Y W, Z W"},
		{"Y a", "X b", "X b, Y a"}, {"X a", "Y b", "X a, Y b"}, {"B a, D a", "A b, C b, E b", "A b, B a, C b, D a, E b"},
		{"A b, C b, E b", "B a, D a", "A b, B a, C b, D a, E b"}, {"A a, B a", "C b, D b", "A a, B a, C b, D b"},
		{"C a, D a", "A b, B b", "A b, B b, C a, D a"},
		{"X a", "X b", "X a"}, {"X a, Y b", "X c, Y d, Z e", "X a, Y b, Z e"}, {"X Z", "X b, Z c", "X c, Z c"},
		{"X Y", "Y X", "Y X"}, {"X Y, Z Y", "Y X", "Y X, Z X"}, {"X Y, Z W", "W Z, Y X", "W Z, Y X"},
		{"X#1 X, Y Y#1", "X a", "X a, X#1 a, Y Y#1"},
	}
	for _, c := range cases {
		got, e := subst.Compose(bindings(c.a), bindings(c.b))
		if !slices.Equal(got, bindings(c.want)) || e != api.OK {
			t.Errorf("Compose(%s; %s) = %+v, %d", c.a, c.b, got, e)
		}
	}
	// A constant is not under b, nor is it the variable of its name.
	a, b := list{bind("X", constant("Y")), bind("Z", constant("Z"))}, bindings("Y a, Z b")
	want := list{bind("X", constant("Y")), bind("Y", constant("a")), bind("Z", constant("Z"))}
	if got, e := subst.Compose(a, b); !slices.Equal(got, want) || e != api.OK {
		t.Errorf("Compose of constants with the names of variables: %+v, %d", got, e)
	}
}

// P4.2: Compose refuses lists that are not valid, and results that are not; no list together with an error.
func TestComposeErrors(t *testing.T) {
	good, bad := bindings("X b, Y Z"), bindings("Y a, X b")
	cases := []struct{ a, b list }{
		{bad, nil}, {nil, bad}, {bad, good}, {good, bad}, {bad, bad}, {bindings("X X"), nil}, {nil, bindings("X a, X a")},
		{list{bind("X", api.Term{})}, nil}, {nil, list{bind("X", variable(""))}},
		{bindings("X Y"), bindings("Z X")}, {bindings("X Y"), bindings("Y Z, Z1 X")}, {bindings("X a"), bindings("Y X")},
		{bindings("X Y, Z W"), bindings("W X, Y Z")},
	}
	for _, c := range cases {
		if got, e := subst.Compose(c.a, c.b); got != nil || e != api.ErrBad {
			t.Errorf("Compose(%+v, %+v) = %+v, %d", c.a, c.b, got, e)
		}
	}
}

// P4.2: Restrict, of valid lists and of any others, in their order.
func TestRestrict(t *testing.T) {
	cases := []struct{ l, vars, want string }{
		{"", "", ""}, {"X a", "", ""}, {"", "X", ""}, {"X b, Y Z", "Y", "Y Z"}, {"X b, Y Z", "X", "X b"},
		{"X b, Y Z", "Z", ""}, {"X b, Y Z", "b", ""}, {"X b, Y Z", "X Y", "X b, Y Z"}, {"X b, Y Z", "Y X", "X b, Y Z"},
		{"X b, Y Z", "Z Y W Y A Y", "Y Z"}, {"X a, Xa b, XA c", "XA", "XA c"}, {"A a, B b, C c, D d", "D A", "A a, D d"},
		{"Y a, X b, Y c", "Y", "Y a, Y c"}, {"Z a, Y b, X c", "X Z", "Z a, X c"}, {"X X, X X", "X", "X X, X X"},
	}
	for _, c := range cases {
		if got := subst.Restrict(bindings(c.l), strings.Fields(c.vars)); !slices.Equal(got, bindings(c.want)) {
			t.Errorf("Restrict(%s; %s) = %+v", c.l, c.vars, got)
		}
	}
	l := list{bind("", constant("a")), bind("X", constant("b"))}
	if got := subst.Restrict(l, []string{""}); !slices.Equal(got, l[:1]) {
		t.Errorf("Restrict to an empty name: %+v", got)
	}
	if got := subst.Restrict(l, nil); len(got) != 0 {
		t.Errorf("Restrict to no names: %+v", got)
	}
}

// guarded returns a copy of a list, and the same with some spare capacity, which is filled.
func guarded(l list) (list, list) {
	room := slices.Concat(l, bindings("Spare spare, Spare spare, Spare spare"))
	return room[:len(l)], room
}

// Rule 3: nothing that was passed is changed, in its spare capacity neither.
func TestArgumentsStay(t *testing.T) {
	one, other := bindings("B b, D C, F C"), bindings("A a, B c, C c, G g") // B is in both, so that Compose leaves one out
	vars := []string{"F", "A", "D", "B"}
	for _, c := range []struct {
		name string
		call func(l, m list, vars []string)
	}{
		{"Check", func(l, m list, vars []string) { subst.Check(l) }},
		{"Get", func(l, m list, vars []string) { subst.Get(l, "D") }},
		{"Term", func(l, m list, vars []string) { subst.Term(l, variable("D")) }},
		{"Apply", func(l, m list, vars []string) { subst.Apply(l, atom(2, "D", "B")) }},
		{"Bind at the front", func(l, m list, vars []string) { subst.Bind(l, "A", constant("a")) }},
		{"Bind", func(l, m list, vars []string) { subst.Bind(l, "C", constant("c")) }},
		{"Bind at the back", func(l, m list, vars []string) { subst.Bind(l, "G", variable("C")) }},
		{"Compose", func(l, m list, vars []string) { subst.Compose(l, m) }},
		{"Restrict", func(l, m list, vars []string) { subst.Restrict(l, vars) }},
	} {
		l, roomL := guarded(one)
		m, roomM := guarded(other)
		beforeL, beforeM, v := slices.Clone(roomL), slices.Clone(roomM), slices.Clone(vars)
		c.call(l, m, v)
		if !slices.Equal(roomL, beforeL) || !slices.Equal(roomM, beforeM) || !slices.Equal(v, vars) {
			t.Errorf("%s changes what it is given: %+v, %+v, %q", c.name, roomL, roomM, v)
		}
	}
}

// Rule 3: a result is new memory with its spare capacity: to write there changes no argument and no other result.
func TestResultsAreNew(t *testing.T) {
	l, m := bindings("B b, D C, F C"), bindings("A a, B c, C c, G g")
	for _, c := range []struct {
		name string
		call func(l, m list) list
	}{
		{"Bind at the front", func(l, m list) list { r, _ := subst.Bind(l, "A", constant("a")); return r }},
		{"Bind", func(l, m list) list { r, _ := subst.Bind(l, "C", constant("c")); return r }},
		{"Bind at the back", func(l, m list) list { r, _ := subst.Bind(l, "G", constant("g")); return r }},
		{"Bind, nothing to replace", func(l, m list) list { r, _ := subst.Bind(m, "D", constant("g")); return r }},
		{"Compose", func(l, m list) list { r, _ := subst.Compose(l, m); return r }},
		{"Compose with nothing", func(l, m list) list { r, _ := subst.Compose(l, nil); return r }},
		{"Compose of nothing", func(l, m list) list { r, _ := subst.Compose(nil, l); return r }},
		{"Restrict", func(l, m list) list { return subst.Restrict(l, []string{"B", "D", "F"}) }},
		{"Restrict to some", func(l, m list) list { return subst.Restrict(l, []string{"B", "F"}) }},
		{"Restrict to none", func(l, m list) list { return subst.Restrict(l, nil) }},
	} {
		one, two := c.call(l, m), c.call(l, m)
		want := slices.Clone(two)
		for i := range one[:cap(one)] {
			one[:cap(one)][i] = bind("Changed", constant("changed"))
		}
		if !slices.Equal(l, bindings("B b, D C, F C")) || !slices.Equal(m, bindings("A a, B c, C c, G g")) {
			t.Fatalf("%s: the result shares memory with an argument: %+v, %+v", c.name, l, m)
		}
		if !slices.Equal(two, want) {
			t.Errorf("%s: two results share memory: %+v", c.name, two)
		}
	}
}

// P4.1, P4.2: long lists, in which each binding is found, and which end in reasonable time.
func TestLongLists(t *testing.T) {
	const n = 50000
	name := func(v string, i int) string { return v + strconv.Itoa(i+n) } // all of one length, so ascending
	var a, b, both list
	var odd []string
	for i := range n {
		a = append(a, bind(name("X", i), variable(name("Y", i))))
		b = append(b, bind(name("Y", i), constant("c"+strconv.Itoa(i))))
		both = append(both, bind(name("X", i), constant("c"+strconv.Itoa(i))))
		if i%2 == 1 {
			odd = append(odd, name("X", i))
		}
	}
	both = append(both, b...)
	if got, e := subst.Compose(a, b); !slices.Equal(got, both) || e != api.OK {
		t.Errorf("Compose of long lists: %d bindings, %d", len(got), e)
	}
	if got := subst.Restrict(a, odd); len(got) != n/2 || got[0] != a[1] || got[n/2-1] != a[n-1] {
		t.Errorf("Restrict of a long list: %d bindings", len(got))
	}
	if got, is := subst.Get(a, name("X", n-1)); !is || got != variable(name("Y", n-1)) {
		t.Errorf("Get of a long list: %+v, %v", got, is)
	}
	slices.Reverse(b)
	if got, is := subst.Get(b, name("Y", 0)); !is || got != constant("c0") {
		t.Errorf("Get of a long list in descending order: %+v, %v", got, is)
	}
}

// The chapter's words once more, as plainly as they can be written, by loops through whole lists.

// names are all Vars of the lists below, ascending.
func names() []string { return []string{"", "X", "Y", "Z"} }

func terms() []api.Term {
	return []api.Term{{}, variable(""), constant("a"), constant("X"), variable("X"), variable("Y"), variable("Z"), variable("W")}
}

func plainGet(l list, v string) (api.Term, bool) {
	for _, b := range l {
		if b.Var == v {
			return b.Term, true
		}
	}
	return api.Term{}, false
}

func plainTerm(l list, t api.Term) api.Term {
	if bound, is := plainGet(l, t.Name); is && t.Var {
		return bound
	}
	return t
}

func plainApply(l list, a api.Atom) api.Atom {
	for i := range a.Args {
		if i < a.N {
			a.Args[i] = plainTerm(l, a.Args[i])
		}
	}
	return a
}

func plainCheck(l list) api.Errno {
	for i, b := range l {
		for _, later := range l[i+1:] {
			if later.Var <= b.Var {
				return api.ErrBad
			}
		}
		for _, c := range l {
			if b.Term.Name == "" || b.Term == variable(c.Var) {
				return api.ErrBad
			}
		}
	}
	return api.OK
}

func plainBind(l list, v string, t api.Term) (list, api.Errno) {
	_, twice := plainGet(l, v)
	under := plainTerm(l, t)
	switch {
	case plainCheck(l) != api.OK:
		return nil, api.ErrBad
	case v == "" || t.Name == "":
		return nil, api.ErrArg
	case twice:
		return nil, api.ErrTwice
	case under == variable(v):
		return nil, api.ErrArg
	}
	var m list
	for _, name := range names() {
		if bound, is := plainGet(l, name); is {
			m = append(m, bind(name, plainTerm(list{bind(v, under)}, bound)))
		} else if name == v {
			m = append(m, bind(name, under))
		}
	}
	return m, api.OK
}

// plainCompose asks of each variable what becomes of it.
func plainCompose(a, b list) (list, api.Errno) {
	if plainCheck(a) != api.OK || plainCheck(b) != api.OK {
		return nil, api.ErrBad
	}
	var m list
	for _, name := range names() {
		if t := plainTerm(b, plainTerm(a, variable(name))); t != variable(name) {
			m = append(m, bind(name, t))
		}
	}
	if plainCheck(m) != api.OK {
		return nil, api.ErrBad
	}
	return m, api.OK
}

func plainRestrict(l list, vars []string) list {
	var m list
	for _, b := range l {
		if slices.Contains(vars, b.Var) {
			m = append(m, b)
		}
	}
	return m
}

// lists returns all lists of at most n of the bindings, valid or not.
func lists(n int) []list {
	all := []list{nil}
	from := 0
	for range n {
		to := len(all)
		for _, l := range all[from:to] {
			for _, v := range names() {
				for _, t := range terms() {
					all = append(all, append(slices.Clone(l), bind(v, t)))
				}
			}
		}
		from = to
	}
	return all
}

// valid returns those that are valid.
func valid(all []list) []list {
	return slices.DeleteFunc(all, func(l list) bool { return plainCheck(l) != api.OK })
}

// subsets returns all lists of the names, each once in a list, and one in another order with one twice.
func subsets() [][]string {
	all := [][]string{nil}
	for _, v := range names() {
		for _, vars := range all {
			all = append(all, append(slices.Clone(vars), v))
		}
	}
	return append(all, []string{"Z", "X", "W", "Z"})
}

// atoms returns atoms with all combinations of terms in the first two places, and variables in the others.
func atoms() []api.Atom {
	var all []api.Atom
	for _, n := range []int{-1, 0, 1, 2, 3, 4, 5} {
		for _, first := range terms() {
			for _, second := range terms() {
				a := atom(n, "a", "a", "X", "Y")
				a.Args[0], a.Args[1] = first, second
				all = append(all, a)
			}
		}
	}
	return all
}

// P4.1, P4.2: all functions of one list agree with the chapter's words on all lists of at most three bindings.
func TestAgainstPlain(t *testing.T) {
	vars := subsets()
	for _, l := range lists(3) {
		if got := subst.Check(l); got != plainCheck(l) {
			t.Fatalf("Check(%+v) = %d", l, got)
		}
		for _, v := range append(names(), "W", "XY") {
			want, bound := plainGet(l, v)
			if got, is := subst.Get(l, v); got != want || is != bound {
				t.Fatalf("Get(%+v, %q) = %+v, %v", l, v, got, is)
			}
		}
		for _, s := range vars {
			if got := subst.Restrict(l, s); !slices.Equal(got, plainRestrict(l, s)) {
				t.Fatalf("Restrict(%+v, %q) = %+v", l, s, got)
			}
		}
		for _, term := range terms() {
			if got := subst.Term(l, term); got != plainTerm(l, term) {
				t.Fatalf("Term(%+v, %+v) = %+v", l, term, got)
			}
			for _, v := range names() {
				want, wrong := plainBind(l, v, term)
				if got, e := subst.Bind(l, v, term); !slices.Equal(got, want) || e != wrong {
					t.Fatalf("Bind(%+v, %q, %+v) = %+v, %d", l, v, term, got, e)
				}
			}
		}
	}
}

// P4.1: Apply agrees with the chapter's words on all atoms under all lists of at most two bindings.
func TestApplyAgainstPlain(t *testing.T) {
	all := atoms()
	for _, l := range lists(2) {
		for _, a := range all {
			if got := subst.Apply(l, a); got != plainApply(l, a) {
				t.Fatalf("Apply(%+v, %+v) = %+v", l, a, got)
			}
		}
	}
}

// P4.2: Compose agrees with the chapter's words on all pairs of lists of which each is valid, and of short ones that are not.
func TestComposeAgainstPlain(t *testing.T) {
	short, good := lists(1), valid(lists(3))
	for _, l := range [][]list{short, good} {
		for _, a := range l {
			for _, b := range l {
				want, wrong := plainCompose(a, b)
				if got, e := subst.Compose(a, b); !slices.Equal(got, want) || e != wrong {
					t.Fatalf("Compose(%+v, %+v) = %+v, %d", a, b, got, e)
				}
			}
		}
	}
}

// P4.2: what Bind and Compose return is valid, and binds what it is asked for.
func TestResultsAreValid(t *testing.T) {
	good := valid(lists(3))
	for _, l := range good {
		for _, term := range terms() {
			for _, v := range names() {
				m, e := subst.Bind(l, v, term)
				if e != api.OK {
					continue
				}
				if subst.Check(m) != api.OK || len(m) != len(l)+1 || subst.Term(m, variable(v)) != subst.Term(m, term) {
					t.Fatalf("Bind(%+v, %q, %+v) = %+v", l, v, term, m)
				}
			}
		}
		for _, b := range good {
			if m, e := subst.Compose(l, b); e == api.OK && subst.Check(m) != api.OK {
				t.Fatalf("Compose(%+v, %+v) = %+v", l, b, m)
			}
		}
	}
}

// P4.3: valid bindings applied twice are the same as applied once; Compose is one after the other.
func TestTheorems(t *testing.T) {
	good := valid(lists(3))
	rows := []api.Atom{
		atom(4, "X", "Y", "Z", "W"), atom(4, "a", "X", "X", "b"), atom(2, "W", "Z", "Y", "X"), atom(0, "X"), atom(1, "X", "Y"),
	}
	composed := 0
	for _, a := range good {
		for _, row := range rows {
			once := subst.Apply(a, row)
			if twice := subst.Apply(a, once); twice != once {
				t.Fatalf("%+v under %+v: %s, and again: %s", row, a, term.Text(once), term.Text(twice))
			}
		}
		for _, b := range good {
			both, e := subst.Compose(a, b)
			if e != api.OK {
				continue
			}
			composed++
			for _, row := range rows {
				if got, want := subst.Apply(both, row), subst.Apply(b, subst.Apply(a, row)); got != want {
					t.Fatalf("%s under %+v, then %+v: %s, not %s", term.Text(row), a, b, term.Text(got), term.Text(want))
				}
			}
		}
	}
	if composed == 0 {
		t.Error("no lists were composed")
	}
}
