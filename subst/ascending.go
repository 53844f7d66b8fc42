package subst

import (
	"sort"

	"vouchsafe/api"
)

// ascending is a list in which each Var is greater than the previous one, so that it can be searched.
type ascending []api.Binding

// run returns how many elements of any list are ascending, from the first one on.
func run(l []api.Binding) int {
	for i := 1; i < len(l); i++ {
		if l[i-1].Var >= l[i].Var {
			return i
		}
	}
	return len(l)
}

// place returns the index at which v is bound, or would be.
func (l ascending) place(v string) int {
	return sort.Search(len(l), func(i int) bool { return l[i].Var >= v })
}

// get returns what v is bound to, and whether it is.
func (l ascending) get(v string) (api.Term, bool) {
	if i := l.place(v); i < len(l) && l[i].Var == v {
		return l[i].Term, true
	}
	return api.Term{}, false
}

// binds reports whether v is bound.
func (l ascending) binds(v string) bool {
	_, bound := l.get(v)
	return bound
}

// with returns a new list: l with b, whose Var it does not bind.
func (l ascending) with(b api.Binding) ascending {
	i := l.place(b.Var)
	// The first piece ends with its capacity, so that append copies it: b is not written over what stands behind it in l.
	return append(append(l[:i:i], b), l[i:]...)
}

// under returns the bindings of l with their terms under m, without those that are bound to themselves then.
func under(l, m ascending) ascending {
	var list ascending
	for _, b := range l {
		b.Term = replaced(b.Term, m.get)
		if !toItself(b) {
			list = append(list, b)
		}
	}
	return list
}

// unbound returns the bindings of l whose Var m does not bind.
func unbound(l, m ascending) ascending {
	var list ascending
	for _, b := range l {
		if !m.binds(b.Var) {
			list = append(list, b)
		}
	}
	return list
}

// joined returns the bindings of two lists that have no Var in common.
func joined(l, m ascending) ascending {
	var list ascending
	for _, b := range m {
		i := l.place(b.Var)
		list = append(append(list, l[:i]...), b)
		l = l[i:]
	}
	return append(list, l...)
}
