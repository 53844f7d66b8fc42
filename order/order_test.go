package order_test

import (
	"math"
	"slices"
	"strconv"
	"strings"
	"testing"

	"vouchsafe/api"
	"vouchsafe/order"
)

type list = []api.Atom

func constant(name string) api.Term { return api.Term{Name: name} }

func variable(name string) api.Term { return api.Term{Var: true, Name: name} }

// laid lays the terms into the array; n is told apart from their number.
func laid(n int, terms ...api.Term) api.Atom {
	a := api.Atom{Says: "a", Pred: "p", N: n}
	copy(a.Args[:], terms)
	return a
}

// with returns an atom with another N.
func with(n int, a api.Atom) api.Atom {
	a.N = n
	return a
}

// headed returns an atom with other names at its head.
func headed(says, pred string, a api.Atom) api.Atom {
	a.Says, a.Pred = says, pred
	return a
}

// atom reads "a says p(b, X)".
func atom(text string) api.Atom {
	says, rest, _ := strings.Cut(text, " says ")
	pred, names, some := strings.Cut(strings.TrimSuffix(rest, ")"), "(")
	var terms []api.Term
	if some {
		for name := range strings.SplitSeq(names, ", ") {
			terms = append(terms, api.Term{Var: name != "" && 'A' <= name[0] && name[0] <= 'Z', Name: name})
		}
	}
	return headed(says, pred, laid(len(terms), terms...))
}

// atoms reads "c a", the list of a says p(c) and a says p(a).
func atoms(names string) list {
	var l list
	for name := range strings.FieldsSeq(names) {
		l = append(l, atom("a says p("+name+")"))
	}
	return l
}

// Two atoms with each text, which differ in what the text does not show: whether a term is a variable, the terms after the first N, N itself.
var (
	one   = list{laid(1, constant("b")), laid(0), laid(4, constant("c"), constant("c"), constant("c"), constant("c")), laid(2, constant("d"), constant("e"))}
	other = list{laid(1, variable("b")), laid(-1, constant("b")), with(5, one[2]), laid(1, constant("d, e"))}
)

// P8.1: Compare, with the chapter's example, and with texts that end, or differ, at each part of them: in ascending order.
func TestCompare(t *testing.T) {
	ascending := []string{
		"a says p", "a says p(X)", "a says p(X, Y)", "a says p(X, Y, Z)", "a says p(X, Y, Z, W)", "a says p(X, Z)", "a says p(X, a)", "a says p(X0)", "a says p(Y)",
		"a says p(a)", "a says p(a, b)", "a says p(a, b, c)", "a says p(a, b, c, d)", "a says p(a, b, c, e)", "a says p(a, b, d)", "a says p(a, b0)", "a says p(a, c)",
		"a says p(a0)", "a says p(a_)", "a says p(aa)", "a says p(b)", "a says p0", "a says p0(a)", "a says p_", "a says pp(a)", "a says q", "a0 says p", "a_b says p",
		"aa says p", "alice says p(a, b)", "alice says p(b)", "b says a", "b says p",
	}
	for i, x := range ascending {
		for j, y := range ascending {
			want := 0
			if i < j {
				want = -1
			} else if i > j {
				want = 1
			}
			if got := order.Compare(atom(x), atom(y)); got != want {
				t.Errorf("Compare(%s, %s) = %d", x, y, got)
			}
		}
	}
}

// P8.1: Compare looks at the texts alone, also of atoms that are not valid, byte by byte.
func TestCompareOdd(t *testing.T) {
	for i, a := range one {
		if order.Compare(a, other[i]) != 0 || order.Compare(other[i], a) != 0 {
			t.Errorf("Compare(%+v, %+v) is not 0", a, other[i])
		}
	}
	long := strings.Repeat("x", 70000)
	cases := []struct {
		a, b api.Atom
		want int
	}{
		{api.Atom{}, api.Atom{}, 0}, {api.Atom{}, laid(0), -1}, {headed("", "b", laid(0)), headed("b", "", laid(0)), -1},
		{with(math.MinInt, laid(1, constant("z"))), laid(0), 0}, {with(math.MaxInt, laid(4)), laid(4), 0}, {with(math.MaxInt, laid(0)), laid(3), 1},
		{laid(1, constant("\xff")), laid(1, constant("é")), 1}, {laid(1, constant("z")), laid(1, constant("é")), -1}, {laid(1, constant("")), laid(1, constant("\x00")), 1},
		{laid(1, constant("\uffff")), laid(1, constant("\U00010000")), -1}, {laid(1, constant("a")), laid(1, constant("B")), 1},
		{headed("a says p", "q", laid(0)), headed("a", "p says q", laid(0)), 0}, {headed("a", "p(b)", laid(0)), laid(1, constant("b")), 0},
		{laid(1, constant(long+"a")), laid(1, constant(long+"b")), -1}, {laid(1, constant(long)), laid(1, constant(long)), 0},
		{laid(2, constant("a")), laid(1, constant("a, ")), 0}, {laid(1), laid(0), 1}, {laid(1), laid(1, variable("")), 0},
	}
	for _, c := range cases {
		if order.Compare(c.a, c.b) != c.want || order.Compare(c.b, c.a) != -c.want {
			t.Errorf("Compare(%+v, %+v) = %d, and the other way %d", c.a, c.b, order.Compare(c.a, c.b), order.Compare(c.b, c.a))
		}
	}
}

// P8.1: Is, with a fault at each position, and with atoms whose texts are the same.
func TestIs(t *testing.T) {
	cases := []struct {
		l    list
		want bool
	}{
		{nil, true}, {list{}, true}, {atoms("a"), true}, {list{{}}, true}, {atoms("a b"), true}, {atoms("a b c d"), true}, {atoms("B a a0 b"), true},
		{atoms("b a"), false}, {atoms("a a"), false}, {atoms("a b b"), false}, {atoms("a a b"), false}, {atoms("b a c d"), false}, {atoms("a c b d"), false},
		{atoms("a b d c"), false}, {atoms("d a b c"), false}, {atoms("b c d a"), false}, {atoms("d c b a"), false}, {atoms("a b a"), false}, {atoms("a0 aa b b_ ba"), true},
		{list{one[1], one[0], one[2], one[3]}, true}, {list{other[1], one[0], other[2], other[3]}, true}, {list{one[0], other[0]}, false}, {list{other[0], one[0]}, false},
		{list{one[1], one[0], other[0], one[2]}, false}, {list{{}, {}}, false}, {list{{}, laid(0)}, true}, {list{laid(0), {}}, false},
	}
	for _, c := range cases {
		if got := order.Is(c.l); got != c.want {
			t.Errorf("Is(%+v) = %v", c.l, got)
		}
	}
}

// P8.1: Sorted puts any list in order, each text once.
func TestSorted(t *testing.T) {
	cases := []struct{ l, want string }{
		{"", ""}, {"a", "a"}, {"a b c", "a b c"}, {"c b a", "a b c"}, {"b c a", "a b c"}, {"c a b", "a b c"}, {"a a", "a"}, {"a a a", "a"}, {"c a c", "a c"},
		{"a b a", "a b"}, {"b a b a", "a b"}, {"d b d a b c a", "a b c d"}, {"a10 a9 a", "a a10 a9"}, {"b B a A", "A B a b"}, {"aa a0 a_ a", "a a0 a_ aa"},
	}
	for _, c := range cases {
		if got := order.Sorted(atoms(c.l)); !slices.Equal(got, atoms(c.want)) {
			t.Errorf("Sorted(%s) = %+v", c.l, got)
		}
	}
	if got := order.Sorted(list{}); len(got) != 0 {
		t.Errorf("Sorted of an empty list = %+v", got)
	}
	mixed := list{atom("b says p"), atom("a says q(a)"), atom("a says q"), atom("a says p(b, a)"), atom("a says p(b)"), {}, atom("a says q"), atom("a says p(a, c)")}
	if got, want := order.Sorted(mixed), (list{{}, mixed[7], mixed[4], mixed[3], mixed[2], mixed[1], mixed[0]}); !slices.Equal(got, want) {
		t.Errorf("Sorted(%+v) = %+v", mixed, got)
	}
}

// P8.1: of several atoms with the same text the first one stays, also in a long list.
func TestSortedKeepsFirst(t *testing.T) {
	for i, a := range one {
		for _, l := range []list{{a, other[i]}, {other[i], a}, {a, laid(1, constant("z")), other[i]}, {{}, other[i], laid(1, constant("z")), a, other[i], a}} {
			first := l[slices.IndexFunc(l, func(x api.Atom) bool { return x == a || x == other[i] })]
			got := order.Sorted(l)
			if !slices.Contains(got, first) || slices.Contains(got, a) && slices.Contains(got, other[i]) {
				t.Errorf("Sorted(%+v) = %+v", l, got)
			}
		}
	}
	var l, want list
	for i := range 1000 {
		name := "c" + strconv.Itoa(100+i*7%300)
		l = append(l, laid(1, constant(name), constant(strconv.Itoa(i))))
	}
	for i := range 300 {
		name := "c" + strconv.Itoa(100+i)
		want = append(want, l[slices.IndexFunc(l, func(a api.Atom) bool { return a.Args[0].Name == name })])
	}
	if got := order.Sorted(l); !slices.Equal(got, want) {
		t.Errorf("Sorted of a long list: %d atoms, or not the first ones", len(got))
	}
}

// P8.2: Has, at each position of a sorted list, between them, and in lists that are not sorted, where a search by halves alone would miss.
func TestHas(t *testing.T) {
	cases := []struct {
		l, a string
		want bool
	}{
		{"", "a", false}, {"a", "a", true}, {"b", "a", false}, {"b", "c", false}, {"b", "B", false}, {"a c e g", "a", true}, {"a c e g", "c", true}, {"a c e g", "e", true},
		{"a c e g", "g", true}, {"a c e g", "B", false}, {"a c e g", "b", false}, {"a c e g", "d", false}, {"a c e g", "f", false}, {"a c e g", "h", false},
		{"g e c a", "a", true}, {"g e c a", "c", true}, {"g e c a", "e", true}, {"g e c a", "g", true}, {"g e c a", "d", false}, {"g e c a", "h", false},
		{"b c d e a", "a", true}, {"e a b c d", "e", true}, {"a b z c d", "z", true}, {"a b z c d", "d", true}, {"a a", "a", true}, {"a a", "b", false}, {"b b a a", "a", true},
	}
	for _, c := range cases {
		if got := order.Has(atoms(c.l), atoms(c.a)[0]); got != c.want {
			t.Errorf("Has(%s; %s) = %v", c.l, c.a, got)
		}
	}
	for i, a := range one {
		if !order.Has(list{a}, other[i]) || !order.Has(list{other[i]}, a) || !order.Has(list{laid(1, constant("z")), a, {}}, other[i]) {
			t.Errorf("Has: %+v and %+v do not count as equal", a, other[i])
		}
		if order.Has(nil, a) || order.Has(list{{}, laid(3), laid(1, constant("z"))}, a) {
			t.Errorf("Has: %+v is found where it is not", a)
		}
	}
}

// P8.2: Add, at each position; what is there already is not added again; a list that is not sorted is sorted, each text once.
func TestAdd(t *testing.T) {
	cases := []struct {
		l, a, want string
		is         bool
	}{
		{"", "a", "a", true}, {"b", "a", "a b", true}, {"b", "c", "b c", true}, {"b", "b", "b", false}, {"b d f", "a", "a b d f", true}, {"b d f", "c", "b c d f", true},
		{"b d f", "e", "b d e f", true}, {"b d f", "g", "b d f g", true}, {"b d f", "b", "b d f", false}, {"b d f", "d", "b d f", false}, {"b d f", "f", "b d f", false},
		{"f d b", "c", "b c d f", true}, {"f d b", "a", "a b d f", true}, {"f d b", "b", "b d f", false}, {"f d b", "f", "b d f", false}, {"b b d d", "c", "b c d", true},
		{"b b", "b", "b", false}, {"d d b b", "b", "b d", false}, {"d b f b", "e", "b d e f", true},
	}
	for _, c := range cases {
		if got, is := order.Add(atoms(c.l), atoms(c.a)[0]); is != c.is || !slices.Equal(got, atoms(c.want)) {
			t.Errorf("Add(%s; %s) = %+v, %v", c.l, c.a, got, is)
		}
	}
	if got, is := order.Add(list{}, api.Atom{}); !is || !slices.Equal(got, list{{}}) {
		t.Errorf("Add to an empty list = %+v, %v", got, is)
	}
	for i, a := range one {
		if got, is := order.Add(list{a}, other[i]); is || !slices.Equal(got, list{a}) {
			t.Errorf("Add: %+v does not stay: %+v, %v", a, got, is)
		}
		if got, is := order.Add(list{laid(1, constant("z")), other[i], a}, a); is || !slices.Equal(got, list{other[i], laid(1, constant("z"))}) {
			t.Errorf("Add: %+v does not stay: %+v, %v", other[i], got, is)
		}
	}
}

// P8.2: Remove, at each position; what is not there leaves the list; one that is not sorted is sorted.
func TestRemove(t *testing.T) {
	cases := []struct {
		l, a, want string
		is         bool
	}{
		{"", "a", "", false}, {"a", "a", "", true}, {"b", "a", "b", false}, {"b", "c", "b", false}, {"b d f", "b", "d f", true}, {"b d f", "d", "b f", true},
		{"b d f", "f", "b d", true}, {"b d f", "a", "b d f", false}, {"b d f", "c", "b d f", false}, {"b d f", "e", "b d f", false}, {"b d f", "g", "b d f", false},
		{"f d b", "b", "d f", true}, {"f d b", "f", "b d", true}, {"f d b", "c", "b d f", false}, {"b b d d", "b", "d", true}, {"b b d d", "d", "b", true},
		{"b b", "b", "", true}, {"b b", "c", "b", false}, {"d b f b", "b", "d f", true},
	}
	for _, c := range cases {
		if got, is := order.Remove(atoms(c.l), atoms(c.a)[0]); is != c.is || !slices.Equal(got, atoms(c.want)) {
			t.Errorf("Remove(%s; %s) = %+v, %v", c.l, c.a, got, is)
		}
	}
	for i, a := range one {
		if got, is := order.Remove(list{{}, a}, other[i]); !is || !slices.Equal(got, list{{}}) {
			t.Errorf("Remove: %+v and %+v do not count as equal: %+v, %v", a, other[i], got, is)
		}
		if got, is := order.Remove(list{other[i], a, {}}, a); !is || !slices.Equal(got, list{{}}) {
			t.Errorf("Remove leaves one of several atoms with the same text: %+v, %v", got, is)
		}
	}
}

// P8.2: Merge, of no list, of one, and of many, sorted or not.
func TestMerge(t *testing.T) {
	cases := []struct{ lists, want string }{
		{"", ""}, {";", ""}, {"; ; ;", ""}, {"a", "a"}, {"a; b", "a b"}, {"b; a", "a b"}, {"a; a", "a"}, {"a c; b d", "a b c d"}, {"b d; a c", "a b c d"}, {"a b; c d", "a b c d"},
		{"c d; a b", "a b c d"}, {"a b c; b", "a b c"}, {"b; a b c", "a b c"}, {"a d; b; ; c; a d", "a b c d"}, {"c; b; a; b; c", "a b c"}, {"c b a", "a b c"}, {"b a a; c a", "a b c"},
		{"a b c d e; e d c b a", "a b c d e"}, {"g; f; e; d; c; b; a", "a b c d e f g"},
	}
	for _, c := range cases {
		var lists []list
		for names := range strings.SplitSeq(c.lists, ";") {
			lists = append(lists, atoms(names))
		}
		if got := order.Merge(lists...); !slices.Equal(got, atoms(c.want)) {
			t.Errorf("Merge(%s) = %+v", c.lists, got)
		}
	}
	if none := order.Merge(); len(none) != 0 {
		t.Errorf("Merge of no list = %+v", none)
	}
}

// P8.2: of several atoms with the same text, Merge returns that of the first list that has it.
func TestMergeKeepsFirst(t *testing.T) {
	z := laid(1, constant("z"))
	for i, a := range one {
		b := other[i]
		cases := []struct {
			lists []list
			want  list
		}{
			{[]list{{a}, {b}}, list{a}}, {[]list{{b}, {a}}, list{b}}, {[]list{{b}, {a}, {b}, {a}}, list{b}}, {[]list{{}, {z}, {b}, {a, z}}, list{b, z}},
			{[]list{{z}, {a, z}, {b, z}}, list{a, z}}, {[]list{{z}, {z, b, a}, {a}}, list{b, z}}, {[]list{{z, a}, {b}}, list{a, z}},
		}
		for _, c := range cases {
			if got := order.Merge(c.lists...); !slices.Equal(got, c.want) {
				t.Errorf("Merge(%+v) = %+v", c.lists, got)
			}
		}
	}
}

// P8.2: Minus, with lists that are sorted or not.
func TestMinus(t *testing.T) {
	cases := []struct{ l, m, want string }{
		{"", "", ""}, {"", "a", ""}, {"a", "", "a"}, {"a", "a", ""}, {"a", "b", "a"}, {"b", "a", "b"}, {"a b c", "b", "a c"}, {"a b c", "a", "b c"}, {"a b c", "c", "a b"},
		{"a b c", "a b c", ""}, {"a b c", "a c", "b"}, {"b", "a b c", ""}, {"a b c", "B d", "a b c"}, {"a c e g", "b c d g h", "a e"}, {"c b a", "b", "a c"}, {"a b c", "c b", "a"},
		{"c a b", "c a", "b"}, {"b b a a", "a a", "b"}, {"c c a c a", "d b", "a c"}, {"a b c d e", "e a d b", "c"}, {"e d c b a", "d d d", "a b c e"},
	}
	for _, c := range cases {
		if got := order.Minus(atoms(c.l), atoms(c.m)); !slices.Equal(got, atoms(c.want)) {
			t.Errorf("Minus(%s; %s) = %+v", c.l, c.m, got)
		}
	}
	for i, a := range one {
		if got := order.Minus(list{{}, a}, list{other[i]}); !slices.Equal(got, list{{}}) {
			t.Errorf("Minus: %+v and %+v do not count as equal: %+v", a, other[i], got)
		}
		if got := order.Minus(list{other[i], a}, list{{}}); !slices.Equal(got, list{other[i]}) {
			t.Errorf("Minus does not return the first of two atoms with the same text: %+v", got)
		}
	}
}

// results calls everything that returns a list, for two lists that lie side by side in one array.
func results(l, m list, a api.Atom) []list {
	added, _ := order.Add(l, a)
	removed, _ := order.Remove(l, a)
	return []list{order.Sorted(l), added, removed, order.Merge(l, m), order.Merge(l), order.Merge(nil, m), order.Merge([]list{l, m}...), order.Minus(l, m), order.Minus(l, nil)}
}

// Rule 3: nothing that was passed is changed, in its spare capacity neither; a result is new memory with its spare capacity: to write there changes no argument and no other result.
func TestResultsAreNew(t *testing.T) {
	for _, text := range []string{"a b c", "c b a", "b", "b b", "a", "a a b", ""} {
		for _, name := range []string{"b", "d", "B", "a"} {
			n := len(atoms(text))
			whole := append(append(atoms(text), atoms("d e d")...), atoms("q r s")...)
			before := slices.Clone(whole)
			got, want := results(whole[:n], whole[n:n+3], atoms(name)[0]), results(atoms(text), atoms("d e d"), atoms(name)[0])
			order.Has(whole[:n], atoms(name)[0])
			for i, l := range got {
				if !slices.Equal(l, want[i]) {
					t.Errorf("%s; %s: result %d is %+v, not %+v", text, name, i, l, want[i])
				}
				for j := range l[:cap(l)] {
					l[:cap(l)][j] = headed("changed", "changed", laid(0))
				}
				if !slices.Equal(whole, before) {
					t.Errorf("%s; %s: result %d, or the call, changes an argument: %+v", text, name, i, whole)
				}
			}
		}
	}
}

// Rule 3: the slice of slices that is handed to Merge stays as it is.
func TestMergeLeavesLists(t *testing.T) {
	lists := []list{atoms("c a"), nil, atoms("b"), atoms("q")}
	order.Merge(lists[:3]...)
	if want := []list{atoms("c a"), nil, atoms("b"), atoms("q")}; !slices.EqualFunc(lists, want, slices.Equal) {
		t.Errorf("Merge changes its lists: %+v", lists)
	}
}

// P8.1, P8.2: long lists end in reasonable time, in whatever order they are, and many lists too.
func TestLongLists(t *testing.T) {
	const n = 100000
	sorted := make(list, n)
	var mixed, even, odd list
	var single []list
	for i := range n {
		sorted[i] = laid(1, constant("c"+strconv.Itoa(n+i)))
		single = append(single, list{sorted[i]})
		if i%2 == 0 {
			even = append(even, sorted[i])
		} else {
			odd = append(odd, sorted[i])
		}
	}
	for i := range n {
		mixed = append(mixed, sorted[i*7919%n])
	}
	slices.Reverse(single)
	for i, l := range []list{order.Sorted(sorted), order.Sorted(mixed), order.Sorted(slices.Concat(mixed, odd, mixed)), order.Merge(even, odd), order.Merge(single...), order.Merge(mixed, sorted)} {
		if !slices.Equal(l, sorted) {
			t.Errorf("long list %d is not sorted", i)
		}
	}
	if !slices.Equal(order.Minus(mixed, even), odd) || !slices.Equal(order.Minus(sorted, odd), even) {
		t.Error("Minus of long lists")
	}
	for _, a := range sorted { // of a sorted list not all is looked at for what is there
		if !order.Has(sorted, a) {
			t.Fatalf("Has does not find %+v in a long list", a)
		}
	}
}
