package spell_test

import (
	"slices"
	"strconv"
	"strings"
	"testing"

	"vouchsafe/api"
	"vouchsafe/spell"
)

// The letters are written out, so that the tests share no rule with the package.
const (
	lowers = "abcdefghijklmnopqrstuvwxyz"
	uppers = "ABCDEFGHIJKLMNOPQRSTUVWXYZ"
	digits = "0123456789"
	smalls = lowers + digits + "_"
	mixed  = lowers + uppers + digits + "_"
)

// kind is what the functions that report on a name are expected to agree with, byte for byte.
type kind struct {
	name   string
	is     func(string) bool
	firsts string
	laters string
}

func kinds() []kind {
	return []kind{
		{"Principal", spell.Principal, lowers, smalls},
		{"Predicate", spell.Predicate, lowers, smalls},
		{"Constant", spell.Constant, lowers + digits, smalls},
		{"Variable", spell.Variable, uppers, mixed},
	}
}

func inOrder() []string {
	return []string{"says", "if", "cansay", "principal", "pred", "clear", "quota", "budget"}
}

func hasByte(s string, c byte) bool { return strings.IndexByte(s, c) >= 0 }

// P1.1: ordinary names, and wrong ones, of each kind.
func TestNames(t *testing.T) {
	const word, constant, variable, nothing = 1, 2, 3, 0
	names := []struct {
		s    string
		kind int
	}{
		{"alice", word}, {"p", word}, {"open_door", word}, {"a1", word}, {"a_", word}, {"z9_0", word},
		{"42x", constant}, {"42", constant}, {"0", constant}, {"9_", constant}, {"1says", constant},
		{"X", variable}, {"Xy", variable}, {"XY_1", variable}, {"Zebra", variable}, {"A_", variable}, {"Says", variable},
		{"IF", variable}, {"V0", variable},
		{"", nothing}, {"_", nothing}, {"_a", nothing}, {"_A", nothing}, {"aB", nothing}, {"aliceB", nothing},
		{"4X", nothing}, {" a", nothing}, {"a ", nothing}, {"a b", nothing}, {"X y", nothing}, {"a-b", nothing},
		{"a\n", nothing}, {"X\x00", nothing}, {"X#1", nothing}, {"#", nothing}, {"p(", nothing}, {"é", nothing},
		{"aé", nothing}, {"Xé", nothing}, {"É", nothing}, {"ä1", nothing}, {"\xff", nothing}, {"a\x80", nothing},
		{"ａ", nothing}, {"１", nothing}, {"sAys", nothing}, {"says if", nothing}, {"١", nothing},
	}
	for _, n := range names {
		isWord := n.kind == word
		isConstant := isWord || n.kind == constant
		if spell.Principal(n.s) != isWord || spell.Predicate(n.s) != isWord {
			t.Errorf("Principal, Predicate of %q: %v, %v", n.s, spell.Principal(n.s), spell.Predicate(n.s))
		}
		if spell.Constant(n.s) != isConstant {
			t.Errorf("Constant(%q): %v", n.s, !isConstant)
		}
		if spell.Variable(n.s) != (n.kind == variable) {
			t.Errorf("Variable(%q): %v", n.s, n.kind != variable)
		}
		if spell.Reserved(n.s) {
			t.Errorf("Reserved(%q)", n.s)
		}
	}
}

// P1.1: the example of the chapter.
func TestExample(t *testing.T) {
	if !spell.Constant("42x") || spell.Principal("42x") || spell.Constant("says") || !spell.Variable("Xy") {
		t.Error("the example")
	}
}

// P1.1: each byte as the first one, alone and before an allowed one.
func TestFirstByte(t *testing.T) {
	for _, k := range kinds() {
		for c := range 256 {
			want := hasByte(k.firsts, byte(c))
			one := string([]byte{byte(c)})
			for _, s := range []string{one, one + "x", one + "x_9"} {
				if k.is(s) != want {
					t.Errorf("%s(%q): %v", k.name, s, !want)
				}
			}
		}
	}
}

// P1.1: each byte as a later one: the second, one in the middle, and the last.
func TestLaterByte(t *testing.T) {
	for _, k := range kinds() {
		for f := range len(k.firsts) {
			first := k.firsts[f : f+1]
			for c := range 256 {
				want := hasByte(k.laters, byte(c))
				one := string([]byte{byte(c)})
				for _, s := range []string{first + "9" + one, first + one + "_", first + "0" + one + "zz"} {
					if k.is(s) != want {
						t.Errorf("%s(%q): %v", k.name, s, !want)
					}
				}
			}
		}
	}
}

// P1.1: the lengths at the edges, with each first byte that is allowed.
func TestLength(t *testing.T) {
	lengths := []struct {
		n    int
		want bool
	}{{0, false}, {1, true}, {2, true}, {254, true}, {255, true}, {256, false}, {257, false}, {511, false}, {512, false}, {65536, false}}
	rest := strings.Repeat("a", 65536)
	for _, k := range kinds() {
		for f := range len(k.firsts) {
			for _, l := range lengths {
				if s := (k.firsts[f:f+1] + rest)[:l.n]; k.is(s) != l.want {
					t.Errorf("%s, a name of %d bytes: %v", k.name, l.n, !l.want)
				}
			}
		}
	}
	if api.MaxSpelling != 255 {
		t.Error("MaxSpelling", api.MaxSpelling)
	}
}

// P1.1: a wrong byte counts wherever it is, also as the last one of the longest name.
func TestWrongByteAnywhere(t *testing.T) {
	for _, k := range kinds() {
		name := k.firsts[:1] + strings.Repeat("a", 254)
		for at := range len(name) {
			for _, c := range []string{"-", " ", "\x00", "\x80", "\xff", "`", "{", "@", "[", "/", ":"} {
				if s := name[:at] + c + name[at+1:]; k.is(s) {
					t.Errorf("%s allows %q at %d", k.name, c, at)
				}
			}
		}
	}
}

// P1.1: each reserved word is reserved, and of no other kind.
func TestReserved(t *testing.T) {
	for _, w := range inOrder() {
		if !spell.Reserved(w) {
			t.Errorf("Reserved(%q): false", w)
		}
		if spell.Principal(w) || spell.Predicate(w) || spell.Constant(w) || spell.Variable(w) {
			t.Errorf("%q is a name", w)
		}
	}
}

// P1.1: words that begin, end or continue with a reserved one, or are a part of one, are ordinary words.
func TestNearlyReserved(t *testing.T) {
	for _, w := range inOrder() {
		near := []string{w + "s", w + "_", w + "0", w + w, "x" + w, w[:len(w)-1], w[1:]}
		for _, other := range inOrder() {
			near = append(near, w+"_"+other)
		}
		for _, s := range near {
			if slices.Contains(inOrder(), s) {
				continue
			}
			if spell.Reserved(s) || !spell.Principal(s) || !spell.Predicate(s) || !spell.Constant(s) {
				t.Errorf("%q isn't an ordinary word", s)
			}
		}
	}
}

// P1.1: only the words themselves are reserved: not their separators, several of them, or other cases.
func TestNotReserved(t *testing.T) {
	wrong := []string{"", " ", "\x00", "a", strings.Join(inOrder(), " "), strings.Join(inOrder(), ""), strings.Repeat("says", 100)}
	for i, w := range inOrder() {
		upper := strings.ToUpper(w)
		wrong = append(wrong, upper, upper[:1]+w[1:], " "+w, w+" ", w+",", w+"\x00", w+" "+inOrder()[(i+1)%8])
		if !spell.Variable(upper) || !spell.Variable(upper[:1]+w[1:]) {
			t.Errorf("%q in uppercase isn't a variable name", w)
		}
	}
	for _, s := range wrong {
		if spell.Reserved(s) {
			t.Errorf("Reserved(%q)", s)
		}
	}
}

// P1.1: Words are the reserved words, in the order of the chapter.
func TestWords(t *testing.T) {
	if l := spell.Words(); !slices.Equal(l, inOrder()) {
		t.Error(l)
	}
}

// P1.1, with rule 3 of DOC.md: each call returns new memory, including its spare capacity.
func TestWordsAreNew(t *testing.T) {
	a, b := spell.Words(), spell.Words()
	for i := range a {
		a[i] = "changed" + strconv.Itoa(i)
	}
	whole := a[:cap(a)]
	for i := len(a); i < len(whole); i++ {
		whole[i] = "spare"
	}
	if !slices.Equal(b, inOrder()) || !slices.Equal(spell.Words(), inOrder()) {
		t.Error("a change of one list is seen in another")
	}
	for _, s := range b[len(b):cap(b)] {
		if s == "spare" {
			t.Error("two lists share their spare capacity")
		}
	}
	if !spell.Reserved("says") || spell.Reserved("changed0") || spell.Constant("says") {
		t.Error("a change of the list is a change of what is reserved")
	}
}

// shortStrings calls f with all strings of at most two bytes, and those of three and four of one byte of each class.
func shortStrings(f func(s string)) {
	f("")
	for a := range 256 {
		f(string([]byte{byte(a)}))
		for b := range 256 {
			f(string([]byte{byte(a), byte(b)}))
		}
	}
	const classes = "azAZ09_-\x80 "
	for a := range len(classes) {
		for b := range len(classes) {
			for c := range len(classes) {
				s := string([]byte{classes[a], classes[b], classes[c]})
				f(s)
				for d := range len(classes) {
					f(s + classes[d:d+1])
				}
			}
		}
	}
}

// P1.2: no string is both a variable name and a constant; each principal is a constant.
func TestKindsApart(t *testing.T) {
	var variables, constants, principals int
	look := func(s string) {
		v, c, p := spell.Variable(s), spell.Constant(s), spell.Principal(s)
		if v && c {
			t.Errorf("%q is both a variable name and a constant", s)
		}
		if p && !c {
			t.Errorf("%q is a principal, and not a constant", s)
		}
		if p != spell.Predicate(s) {
			t.Errorf("%q: Principal and Predicate differ", s)
		}
		if v {
			variables++
		}
		if c {
			constants++
		}
		if p {
			principals++
		}
	}
	shortStrings(look)
	for _, s := range inOrder() {
		look(s)
		look(s + "x")
	}
	for n := 250; n < 260; n++ {
		for _, first := range []string{"a", "A", "0", "_"} {
			look(first + strings.Repeat("z", n-1))
		}
	}
	if variables == 0 || principals == 0 || constants <= principals {
		t.Error("no names among these:", variables, constants, principals)
	}
}
