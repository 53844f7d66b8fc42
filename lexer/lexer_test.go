package lexer_test

import (
	"iter"
	"slices"
	"strings"
	"testing"
	"unsafe"

	"vouchsafe/api"
	"vouchsafe/lexer"
)

// The bytes are written out, so that the tests share no rule with the package.
const (
	lowers = "abcdefghijklmnopqrstuvwxyz"
	uppers = "ABCDEFGHIJKLMNOPQRSTUVWXYZ"
	digits = "0123456789"
	smalls = lowers + digits + "_"
	mixed  = lowers + uppers + digits + "_"
	signs  = "(),.:/?"
	blanks = "\x20\x0a\x09\x0d"
)

type list = []api.Token

func has(s string, c byte) bool { return strings.IndexByte(s, c) >= 0 }

func word(text string, at int) api.Token { return api.Token{Kind: api.TokWord, Text: text, At: at} }

func variable(text string, at int) api.Token {
	return api.Token{Kind: api.TokVar, Text: text, At: at}
}

func sign(text string, at int) api.Token { return api.Token{Kind: api.TokSign, Text: text, At: at} }

// begun returns the token of a text whose first byte begins one that takes all of it.
func begun(text string) api.Token {
	switch {
	case has(lowers+digits, text[0]):
		return word(text, 0)
	case has(uppers, text[0]):
		return variable(text, 0)
	}
	return sign(text, 0)
}

// yielded returns everything that an iterator yields.
func yielded(each iter.Seq2[api.Token, api.Errno]) (l list, errors []api.Errno) {
	for t, e := range each {
		l, errors = append(l, t), append(errors, e)
	}
	return l, errors
}

// expect tells if All and Each of a text do not give these tokens; with an error, those are the ones before it.
func expect(t *testing.T, s string, before list, at int, e api.Errno) {
	t.Helper()
	all, errors := before, make([]api.Errno, len(before))
	each := before
	if e != api.OK {
		all, each, errors = nil, append(slices.Clone(before), api.Token{}), append(errors, e)
	}
	if l, gotAt, got := lexer.All(s); !slices.Equal(l, all) || gotAt != at || got != e {
		t.Fatalf("All(%q) = %+v, %d, %d", short(s), l, gotAt, got)
	}
	if l, got := yielded(lexer.Each(s)); !slices.Equal(l, each) || !slices.Equal(got, errors) {
		t.Fatalf("Each(%q) yields %+v, %v", short(s), l, got)
	}
}

// short cuts a text that is too long to be told.
func short(s string) string { return s[:min(len(s), 300)] }

// P9.1: ordinary texts, the chapter's example among them.
func TestTokens(t *testing.T) {
	cases := []struct {
		s string
		l list
	}{
		{"", nil}, {" ", nil}, {" \t\r\n\n", nil}, {"%", nil}, {"% no", nil}, {"%\n", nil}, {"%a\n%b\n % c\n%", nil},
		{"a", list{word("a", 0)}}, {"X", list{variable("X", 0)}}, {"?", list{sign("?", 0)}}, {"42x", list{word("42x", 0)}}, {"0", list{word("0", 0)}},
		{"p(X)% no", list{word("p", 0), sign("(", 1), variable("X", 2), sign(")", 3)}},
		{"p(X)% no\n, aB", list{word("p", 0), sign("(", 1), variable("X", 2), sign(")", 3), sign(",", 9), word("a", 11), variable("B", 12)}},
		{"a says p(X, 9_).", list{word("a", 0), word("says", 2), word("p", 7), sign("(", 8), variable("X", 9), sign(",", 10), word("9_", 12), sign(")", 14), sign(".", 15)}},
		{"pred p / 2.", list{word("pred", 0), word("p", 5), sign("/", 7), word("2", 9), sign(".", 10)}},
		{"clear a: b,c.", list{word("clear", 0), word("a", 6), sign(":", 7), word("b", 9), sign(",", 10), word("c", 11), sign(".", 12)}},
		{"says if cansay", list{word("says", 0), word("if", 5), word("cansay", 8)}},
		{"\n\na\r\n\tb ", list{word("a", 2), word("b", 6)}},
	}
	for _, c := range cases {
		expect(t, c.s, c.l, 0, api.OK)
	}
}

// P9.1: tokens are as long as possible, and only that long.
func TestLongest(t *testing.T) {
	cases := []struct {
		s string
		l list
	}{
		{"ab", list{word("ab", 0)}}, {"a b", list{word("a", 0), word("b", 2)}}, {"a_b__", list{word("a_b__", 0)}}, {"0a1", list{word("0a1", 0)}}, {"007", list{word("007", 0)}},
		{"aB", list{word("a", 0), variable("B", 1)}}, {"aBc", list{word("a", 0), variable("Bc", 1)}}, {"9X9", list{word("9", 0), variable("X9", 1)}},
		{"a_B_", list{word("a_", 0), variable("B_", 2)}}, {"XyZ_0a", list{variable("XyZ_0a", 0)}}, {"XX", list{variable("XX", 0)}}, {"X Y", list{variable("X", 0), variable("Y", 2)}},
		{"Xa", list{variable("Xa", 0)}}, {"X_", list{variable("X_", 0)}}, {"((", list{sign("(", 0), sign("(", 1)}}, {"(a", list{sign("(", 0), word("a", 1)}},
		{"::/", list{sign(":", 0), sign(":", 1), sign("/", 2)}}, {"a.b", list{word("a", 0), sign(".", 1), word("b", 2)}}, {"1.5", list{word("1", 0), sign(".", 1), word("5", 2)}},
		{"//", list{sign("/", 0), sign("/", 1)}}, {"X?Y", list{variable("X", 0), sign("?", 1), variable("Y", 2)}},
	}
	for _, c := range cases {
		expect(t, c.s, c.l, 0, api.OK)
	}
}

// P9.1: each byte as the first one: it begins a token of its kind, or stands between tokens, or is an error.
func TestFirstByte(t *testing.T) {
	for c := range 256 {
		one := string([]byte{byte(c)})
		switch {
		case has(smalls+uppers+signs, byte(c)) && one != "_":
			expect(t, one, list{begun(one)}, 0, api.OK)
		case has(blanks+"%", byte(c)):
			expect(t, one, nil, 0, api.OK)
		default:
			expect(t, one, nil, 0, api.ErrText)
			expect(t, one+"a", nil, 0, api.ErrText)
			expect(t, "\n "+one, nil, 2, api.ErrText)
		}
	}
}

// P9.1: each byte behind each that begins a token: the token goes on, ends there, or an error comes behind it.
func TestLaterByte(t *testing.T) {
	for _, first := range strings.Split(lowers+uppers+digits+signs, "") {
		later := ""
		if !has(signs, first[0]) {
			later = smalls
		}
		if has(uppers, first[0]) {
			later = mixed
		}
		for c := range 256 {
			one := string([]byte{byte(c)})
			switch {
			case has(later, byte(c)):
				expect(t, first+one, list{begun(first + one)}, 0, api.OK)
			case has(blanks+"%", byte(c)):
				expect(t, first+one, list{begun(first)}, 0, api.OK)
			case has(mixed+signs, byte(c)) && one != "_":
				second := begun(one)
				second.At = 1
				expect(t, first+one, list{begun(first), second}, 0, api.OK)
			default:
				expect(t, first+one, list{begun(first)}, 1, api.ErrText)
			}
		}
	}
}

// P9.1: blanks and comments stand between tokens and belong to none; a comment takes all bytes up to the end of its line.
func TestBetween(t *testing.T) {
	for _, gap := range []string{" ", "\n", "\t", "\r", " \n\t\r ", "%\n", "% X (;\n", "%%%\n", " % \r _\n", "%\n%\n", "%\x00\xff\x0b;'\"\\\n\t", "%é\r\n", "%" + strings.Repeat("x", 300) + "\n", strings.Repeat(" ", 300)} {
		expect(t, "a"+gap+"b", list{word("a", 0), word("b", 1+len(gap))}, 0, api.OK)
		expect(t, gap+"X"+gap+gap+"."+gap, list{variable("X", len(gap)), sign(".", 3*len(gap)+1)}, 0, api.OK)
		expect(t, gap+"a"+gap+";", list{word("a", len(gap))}, 2*len(gap)+1, api.ErrText)
	}
	for c := range 256 {
		one := string([]byte{byte(c)})
		if one == "\n" {
			expect(t, "a%"+one+"b", list{word("a", 0), word("b", 3)}, 0, api.OK)
			continue
		}
		expect(t, "a%"+one+"b", list{word("a", 0)}, 0, api.OK)
		expect(t, "a%"+one+"\nb", list{word("a", 0), word("b", 4)}, 0, api.OK)
	}
	for _, wrong := range []string{"\x00", "\x0b", "\x0c", "\x85", "\xa0", "\u00a0", "\u2028", "\ufeff", "\x1a"} { // blank elsewhere, but not here
		expect(t, "a"+wrong+"b", list{word("a", 0)}, 1, api.ErrText)
	}
}

// P9.1: the first byte with which no token begins counts; there are no tokens then, but Each yields those before it.
func TestErrText(t *testing.T) {
	expect(t, "a;b", list{word("a", 0)}, 1, api.ErrText)
	expect(t, ";", nil, 0, api.ErrText)
	expect(t, "a;b;c", list{word("a", 0)}, 1, api.ErrText)
	expect(t, "a b\n;", list{word("a", 0), word("b", 2)}, 4, api.ErrText)
	expect(t, "_a", nil, 0, api.ErrText)
	expect(t, "a _", list{word("a", 0)}, 2, api.ErrText)
	expect(t, "(_X", list{sign("(", 0)}, 1, api.ErrText)
	expect(t, "X-1", list{variable("X", 0)}, 1, api.ErrText)
	expect(t, "aé", list{word("a", 0)}, 1, api.ErrText)
	expect(t, "% ;\n ;", nil, 5, api.ErrText)
	expect(t, "a:-b", list{word("a", 0), sign(":", 1)}, 2, api.ErrText)
	expect(t, "V0#1", list{variable("V0", 0)}, 2, api.ErrText)
	expect(t, "a\x00", list{word("a", 0)}, 1, api.ErrText)
	expect(t, "a"+strings.Repeat(" ", 65534)+"!", list{word("a", 0)}, 65535, api.ErrText)
}

// P9.1: words and variables of at most 255 bytes are tokens; of longer ones the first byte counts.
func TestErrLong(t *testing.T) {
	rest := strings.Repeat("a_0", 100)
	for _, first := range strings.Split(lowers+digits+uppers, "") {
		for _, n := range []int{254, 255} {
			text := (first + rest)[:n]
			expect(t, text, list{begun(text)}, 0, api.OK)
			expect(t, text+"?"+text, list{begun(text), sign("?", n), {Kind: begun(text).Kind, Text: text, At: n + 1}}, 0, api.OK)
		}
		for _, n := range []int{256, 257, 300} {
			text := (first + rest)[:n]
			expect(t, text, nil, 0, api.ErrLong)
			expect(t, "a ("+text+")", list{word("a", 0), sign("(", 2)}, 3, api.ErrLong)
		}
	}
	longest := strings.Repeat("a", 255)
	expect(t, longest+"B", list{word(longest, 0), variable("B", 255)}, 0, api.OK)
	expect(t, longest+"B"+longest, list{word(longest, 0)}, 255, api.ErrLong)
	expect(t, "B"+longest, nil, 0, api.ErrLong)
	expect(t, strings.Repeat("9", 65536), nil, 0, api.ErrLong)
	if api.MaxSpelling != 255 || api.MaxText != 65536 {
		t.Error(api.MaxSpelling, api.MaxText)
	}
}

// P9.1: of several errors the first one counts, whichever it is.
func TestFirstError(t *testing.T) {
	long := strings.Repeat("x", 256)
	expect(t, ";"+long, nil, 0, api.ErrText)
	expect(t, long+";", nil, 0, api.ErrLong)
	expect(t, "a; "+long, list{word("a", 0)}, 1, api.ErrText)
	expect(t, "a "+long+";", list{word("a", 0)}, 2, api.ErrLong)
	expect(t, long+" "+long, nil, 0, api.ErrLong)
	expect(t, "_"+long, nil, 0, api.ErrText)
	expect(t, long+"_;", nil, 0, api.ErrLong)
	expect(t, strings.Repeat("x", 255)+";"+long, list{word(strings.Repeat("x", 255), 0)}, 255, api.ErrText)
}

// P9.1: a text of 65,536 bytes is split; a longer one has no token, whatever else is wrong with it.
func TestTextTooLong(t *testing.T) {
	const n = 65536
	fill := func(s string, length int) string { return strings.Repeat(s, length/len(s)+1)[:length] }
	var all list
	for i := range n {
		all = append(all, sign("(", i))
	}
	expect(t, fill("(", n), all, 0, api.OK)
	expect(t, fill("(", n-1), all[:n-1], 0, api.OK)
	expect(t, fill("(", n-1)+";", all[:n-1], n-1, api.ErrText)
	expect(t, fill(" ", n), nil, 0, api.OK)
	expect(t, "%"+fill("x", n-1), nil, 0, api.OK)
	expect(t, fill("\n", n-1)+"a", list{word("a", n-1)}, 0, api.OK)
	for _, s := range []string{"(", " ", "a", "X", ";", "a b ", "% no\n", "%", "_", "a;"} {
		for _, length := range []int{n + 1, n + 2, 2 * n, 5 * n} {
			expect(t, fill(s, length), nil, n, api.ErrLong)
		}
	}
	expect(t, ";"+fill("a", n), nil, n, api.ErrLong)
}

// Rule 4: an iterator can be used more than once, left early, and used within itself.
func TestEachAgain(t *testing.T) {
	each := lexer.Each("a b X ;")
	first, _ := yielded(each)
	again, errors := yielded(each)
	if want := (list{word("a", 0), word("b", 2), variable("X", 4), {}}); !slices.Equal(first, want) || !slices.Equal(again, want) || errors[3] != api.ErrText {
		t.Errorf("%+v, then %+v, %v", first, again, errors)
	}
	for leave, want := range []string{"a", "ab", "abX", "abX"} {
		got, n := "", 0
		for x := range each {
			got += x.Text
			if n == leave {
				break
			}
			n++
		}
		if got != want {
			t.Errorf("left at %d: %s", leave, got)
		}
	}
	got := ""
	for x := range lexer.Each("a X") {
		for y := range each {
			got += x.Text + y.Text + " "
			if y.Text == "b" {
				break
			}
		}
	}
	if got != "aa ab Xa Xb " {
		t.Error("one within another:", got)
	}
	got = ""
	for x := range each {
		for y := range each {
			got += x.Text + y.Text + " "
		}
	}
	if got != "aa ab aX a ba bb bX b Xa Xb XX X a b X  " {
		t.Error("one within itself:", got)
	}
}

// P9.1, rule 4: who leaves is not called again, neither at a token nor at the error.
func TestEachStops(t *testing.T) {
	for _, s := range []string{"a b c", "a b;", ";", "a;b", strings.Repeat(" ", 65537), strings.Repeat("x", 256)} {
		most, _ := yielded(lexer.Each(s))
		for leave := 1; leave <= len(most)+1; leave++ {
			calls := 0
			lexer.Each(s)(func(api.Token, api.Errno) bool {
				calls++
				return calls < leave
			})
			if calls != min(leave, len(most)) {
				t.Errorf("Each(%q): left at %d, but called %d times", short(s), leave, calls)
			}
		}
	}
}

// P9.2: the texts of any tokens, whatever their kinds, positions and texts, with a blank between two.
func TestText(t *testing.T) {
	cases := []struct {
		l    list
		want string
	}{
		{nil, ""}, {list{}, ""}, {list{word("a", 0)}, "a"}, {list{word("a", 0), variable("B", 1)}, "a B"}, {list{word("a", 7), sign("(", 3), sign(")", -1)}, "a ( )"},
		{list{{}}, ""}, {list{{}, {}}, " "}, {list{{}, {}, {}}, "  "}, {list{{}, word("a", 0), {}}, " a "}, {list{word("a b", 0), word(" ", 0)}, "a b  "},
		{list{{Kind: -5, Text: "x", At: -9}, {Kind: 99, Text: "y;\n"}}, "x y;\n"}, {list{word("\x00", 0), word("\xff", 0), word("é%", 0)}, "\x00 \xff é%"},
		{list{word("a", 0), word("a", 0), word("a", 0)}, "a a a"}, {list{word(strings.Repeat("x", 70000), 0), sign(".", 0)}, strings.Repeat("x", 70000) + " ."},
	}
	for _, c := range cases {
		if got := lexer.Text(c.l); got != c.want {
			t.Errorf("Text(%+v) = %q", c.l, short(got))
		}
	}
	many := make(list, 100000)
	for i := range many {
		many[i].Text = "ab"
	}
	if got := lexer.Text(many); got != strings.Repeat("ab ", 99999)+"ab" {
		t.Errorf("Text of many tokens has %d bytes", len(got))
	}
}

// Rule 3: a list that was passed is not changed, its spare capacity neither.
func TestTextLeavesTokens(t *testing.T) {
	whole := list{word("a", 0), variable("X", 1), sign("?", 2), word("b", 3)}
	before := slices.Clone(whole)
	if got := lexer.Text(whole[:2]); got != "a X" || !slices.Equal(whole, before) {
		t.Errorf("%q, %+v", got, whole)
	}
}

// Rule 3: what All returns is new memory, including its spare capacity: a change of one list is not seen in another.
func TestTokensAreNew(t *testing.T) {
	const s = "a says p(X, Y)."
	one, _, _ := lexer.All(s)
	other, _, _ := lexer.All(s)
	want := slices.Clone(other)
	for i := range one[:cap(one)] {
		one[:cap(one)][i] = api.Token{Kind: -1, Text: "changed", At: -1}
	}
	again, _, _ := lexer.All(s)
	each, _ := yielded(lexer.Each(s))
	if !slices.Equal(other, want) || !slices.Equal(again, want) || !slices.Equal(each, want) || slices.Contains(other[:cap(other)], one[0]) {
		t.Errorf("%+v, then %+v, %+v", other, again, each)
	}
}

// Rule 3: results share no memory with a text that was passed: what becomes of that later does not matter.
func TestTextsAreNotKept(t *testing.T) {
	memory := []byte("a X (")
	s := unsafe.String(&memory[0], len(memory))
	all, _, _ := lexer.All(s)
	each, _ := yielded(lexer.Each(s))
	joined := lexer.Text(list{{Text: s}})
	copy(memory, ";;;;;")
	if want := (list{word("a", 0), variable("X", 2), sign("(", 4)}); !slices.Equal(all, want) || !slices.Equal(each, want) || joined != "a X (" {
		t.Errorf("%+v, %+v, %q", all, each, joined)
	}
}

// P9.1: long texts end in reasonable time, whatever they consist of.
func TestLongTexts(t *testing.T) {
	for _, s := range []string{"a ", "% x\n", "%\n", "aX", "X(a)", ";", strings.Repeat("x", 255) + " ", strings.Repeat("%", 60000) + "\n", "\n \t\r"} {
		text := strings.Repeat(s, 65536/len(s))
		for range 20 {
			lexer.All(text)
			yielded(lexer.Each(text))
		}
	}
}
