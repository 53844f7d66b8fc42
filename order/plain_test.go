package order_test

import (
	"slices"
	"testing"

	"vouchsafe/api"
	"vouchsafe/order"
	"vouchsafe/term"
)

// The chapter's words once more, as plainly as they can be written: on lists of texts, without sorting or halving anything.

// small returns all lists of at most four of some atoms, two of which have the same text as others.
func small() []list {
	some := list{one[0], other[0], one[1], other[1], laid(1, constant("z"))}
	lists, longest := []list{nil}, []list{nil}
	for range 4 {
		var longer []list
		for _, l := range longest {
			for _, a := range some {
				longer = append(longer, append(slices.Clone(l), a))
			}
		}
		lists, longest = append(lists, longer...), longer
	}
	return lists
}

// has returns the first element of a list with the text of an atom, and whether there is one.
func has(l list, a api.Atom) (api.Atom, bool) {
	for _, b := range l {
		if term.Text(a) == term.Text(b) {
			return b, true
		}
	}
	return api.Atom{}, false
}

// without returns the elements of a list whose text is not that of an atom.
func without(l list, a api.Atom) list {
	var left list
	for _, b := range l {
		if term.Text(a) != term.Text(b) {
			left = append(left, b)
		}
	}
	return left
}

// plainSorted takes the first one of the least text away until nothing is left.
func plainSorted(l list) list {
	var sorted list
	for len(l) > 0 {
		least := l[0]
		for _, a := range l {
			if term.Text(a) < term.Text(least) {
				least = a
			}
		}
		sorted, l = append(sorted, least), without(l, least)
	}
	return sorted
}

// plainMinus takes the texts of m away, one after the other.
func plainMinus(l, m list) list {
	left := plainSorted(l)
	for _, a := range m {
		left = without(left, a)
	}
	return left
}

// P8.1, P8.2: everything that takes one list agrees with the chapter's words on all small lists.
func TestAgainstPlain(t *testing.T) {
	for _, l := range small() {
		sorted := plainSorted(l)
		if got := order.Sorted(l); !slices.Equal(got, sorted) {
			t.Fatalf("Sorted(%+v) = %+v", l, got)
		}
		if order.Is(l) != slices.Equal(l, sorted) {
			t.Fatalf("Is(%+v) = %v", l, order.Is(l))
		}
		for _, a := range append(slices.Concat(one, other), laid(1, constant("z")), api.Atom{}) {
			_, there := has(l, a)
			if order.Has(l, a) != there {
				t.Fatalf("Has(%+v, %+v) = %v", l, a, !there)
			}
			if got, is := order.Add(l, a); is == there || !slices.Equal(got, plainSorted(append(slices.Clone(l), a))) {
				t.Fatalf("Add(%+v, %+v) = %+v, %v", l, a, got, is)
			}
			if got, is := order.Remove(l, a); is != there || !slices.Equal(got, without(sorted, a)) {
				t.Fatalf("Remove(%+v, %+v) = %+v, %v", l, a, got, is)
			}
		}
	}
}

// P8.2: Merge and Minus agree with the chapter's words on all pairs of small lists.
func TestPairsAgainstPlain(t *testing.T) {
	lists := small()
	for i, l := range lists {
		for _, m := range lists {
			if got := order.Merge(l, m); !slices.Equal(got, plainSorted(slices.Concat(plainSorted(l), plainSorted(m)))) {
				t.Fatalf("Merge(%+v, %+v) = %+v", l, m, got)
			}
			if got := order.Minus(l, m); !slices.Equal(got, plainMinus(l, m)) {
				t.Fatalf("Minus(%+v, %+v) = %+v", l, m, got)
			}
			if len(m) > 2 && i%20 > 0 { // of the greater ones only some, as there are many
				break
			}
		}
	}
}

// P8.3: the results are sorted; Add of what was not there is undone by Remove, Remove of what was there by Add.
func TestTheorems(t *testing.T) {
	lists := small()
	for i, l := range lists {
		m, sorted := lists[len(lists)-1-i], order.Sorted(l)
		for _, a := range slices.Concat(one, other) {
			added, isNew := order.Add(l, a)
			removed, wasThere := order.Remove(l, a)
			for j, got := range []list{sorted, added, removed, order.Merge(l, m), order.Merge(m, l, list{a}), order.Minus(l, m), order.Minus(m, list{a})} {
				if !order.Is(got) {
					t.Fatalf("result %d of %+v, %+v, %+v is not sorted: %+v", j, l, m, a, got)
				}
			}
			if isNew == wasThere || order.Has(l, a) != wasThere {
				t.Fatalf("%+v: Add, Remove and Has of %+v do not agree", l, a)
			}
			if back, is := order.Remove(added, a); isNew && (!is || !slices.Equal(back, sorted)) {
				t.Fatalf("%+v: Add of %+v is not undone by Remove: %+v, %v", l, a, back, is)
			}
			first, _ := has(l, a)
			if back, is := order.Add(removed, first); wasThere && (!is || !slices.Equal(back, sorted)) {
				t.Fatalf("%+v: Remove of %+v is not undone by Add: %+v, %v", l, a, back, is)
			}
		}
	}
}

// P8.3: what is compared is ordered: by one order, with the texts' equality.
func TestCompareIsAnOrder(t *testing.T) {
	all := append(slices.Concat(one, other), api.Atom{}, laid(1, constant("z")), atom("b says p"), atom("a says p(b, c)"))
	for _, a := range all {
		for _, b := range all {
			if order.Compare(a, b) != -order.Compare(b, a) || (order.Compare(a, b) == 0) != (term.Text(a) == term.Text(b)) {
				t.Fatalf("Compare(%+v, %+v) = %d", a, b, order.Compare(a, b))
			}
			for _, c := range all {
				if order.Compare(a, b) <= 0 && order.Compare(b, c) <= 0 && order.Compare(a, c) > 0 {
					t.Fatalf("Compare of %+v, %+v, %+v", a, b, c)
				}
			}
		}
	}
}
