package lexer_test

import (
	"slices"
	"strings"
	"testing"

	"vouchsafe/api"
	"vouchsafe/lexer"
	"vouchsafe/spell"
)

// The chapter's words once more, as plainly as they can be written: at each position the longest beginning of the rest that is a token is sought, by trying all of them.

// small returns all texts of at most five of some bytes, at least one of each kind.
func small() []string {
	texts, longest := []string{""}, []string{""}
	for range 5 {
		var longer []string
		for _, s := range longest {
			for _, c := range strings.Split("a7B_(? \n%;", "") {
				longer = append(longer, s+c)
			}
		}
		texts, longest = append(texts, longer...), longer
	}
	return texts
}

// only reports whether each byte of a text is one of some.
func only(s, some string) bool { return strings.Trim(s, some) == "" }

// plainKind returns the kind of a text that is one token, otherwise 0.
func plainKind(s string) int {
	switch {
	case only(s[:1], lowers+digits) && only(s, smalls):
		return api.TokWord
	case only(s[:1], uppers) && only(s, mixed):
		return api.TokVar
	case only(s, signs) && len(s) == 1:
		return api.TokSign
	}
	return 0
}

// plainAll returns the tokens of a short text up to the first error, and that.
func plainAll(s string) (l list, at int, e api.Errno) {
texts:
	for at < len(s) {
		rest := s[at:]
		if only(rest[:1], blanks) {
			at++
			continue
		}
		if rest[0] == '%' {
			line, _, _ := strings.Cut(rest, "\n")
			at += len(line)
			continue
		}
		for n := len(rest); n > 0; n-- {
			if kind := plainKind(rest[:n]); kind != 0 && n > 255 {
				return l, at, api.ErrLong
			} else if kind != 0 {
				l = append(l, api.Token{Kind: kind, Text: rest[:n], At: at})
				at += n
				continue texts
			}
		}
		return l, at, api.ErrText
	}
	return l, 0, api.OK
}

// P9.1: All and Each agree with the chapter's words on all small texts.
func TestAgainstPlain(t *testing.T) {
	for _, s := range small() {
		l, at, e := plainAll(s)
		expect(t, s, l, at, e)
	}
}

// P9.1: so they do on texts around the length of the longest token, of each kind, with each byte behind it.
func TestLongAgainstPlain(t *testing.T) {
	for _, first := range []string{"a", "7", "B", " B", "%", "%\n0"} {
		for n := 252; n < 258; n++ {
			for _, end := range strings.Split("a7B_(? \n%;", "") {
				s := first + strings.Repeat("a7_", 100)[:n] + end + "a"
				l, at, e := plainAll(s)
				expect(t, s, l, at, e)
			}
		}
	}
}

// P9.1: what has the kind of a word or of a variable is spelled as one (1).
func TestSpelled(t *testing.T) {
	for _, s := range append(small(), "says if cansay principal pred clear quota budget sAys", strings.Repeat("x", 255)+strings.Repeat("X", 255)) {
		l, _, _ := lexer.All(s)
		for _, x := range l {
			isWord, isVar := spell.Constant(x.Text) || spell.Reserved(x.Text), spell.Variable(x.Text)
			if isWord != (x.Kind == api.TokWord) || isVar != (x.Kind == api.TokVar) || s[x.At:x.At+len(x.Text)] != x.Text {
				t.Fatalf("All(%q): %+v", short(s), x)
			}
		}
	}
}

// P9.3: All of Text of All has the same kinds and texts, at the positions that the blanks give them.
func TestTheorem(t *testing.T) {
	long := strings.Repeat("x", 255)
	for _, s := range append(small(), "p(X)% no\n, aB", long+"X"+long[1:]+" "+long+"%"+long, "aBcDe(f)G", strings.Repeat("a%\n", 20000), strings.Repeat("X ", 32768)) {
		l, _, e := lexer.All(s)
		if e != api.OK {
			continue
		}
		text := lexer.Text(l)
		at := 0
		for i, x := range l {
			l[i].At = at
			at += len(x.Text) + 1
		}
		if again, _, e := lexer.All(text); e != api.OK || !slices.Equal(again, l) || lexer.Text(again) != text {
			t.Fatalf("All(%q) = %+v, %d", short(text), again, e)
		}
	}
}

// P9.3 speaks of calls without an error (rule 10): with its blanks, a text may be too long to be read back.
func TestTheoremEnds(t *testing.T) {
	l, _, _ := lexer.All(strings.Repeat("(", 32769))
	if _, at, e := lexer.All(lexer.Text(l)); at != 65536 || e != api.ErrLong {
		t.Error(at, e)
	}
	if again, _, e := lexer.All(lexer.Text(l[1:])); len(again) != 32768 || e != api.OK {
		t.Error(len(again), e)
	}
}
