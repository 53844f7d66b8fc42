package order

import (
	"cmp"
	"strings"

	"vouchsafe/api"
	"vouchsafe/term"
)

// entry stands for an atom of a list while this is sorted, since to make a text costs more than to compare two: it holds the text, and the place of the atom.
type entry struct {
	text  string
	place int
}

// entered returns the entries of a list.
func entered(l []api.Atom) []entry {
	entries := make([]entry, len(l))
	for i, a := range l {
		entries[i] = entry{term.Text(a), i}
	}
	return entries
}

// compare returns how an entry stands to another one: of those with the same text, the one of the earlier place is less.
func (e entry) compare(f entry) int {
	return cmp.Or(strings.Compare(e.text, f.text), cmp.Compare(e.place, f.place))
}

// alike reports whether two entries have the same text.
func (e entry) alike(f entry) bool { return e.text == f.text }
