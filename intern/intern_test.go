package intern_test

import (
	"maps"
	"slices"
	"strconv"
	"strings"
	"testing"
	"unsafe"

	"vouchsafe/api"
	"vouchsafe/intern"
)

// plain is what the chapter says of a table, written down with a search for each number.
type plain struct {
	texts map[int]string
	uses  map[int]int
	most  int // strings that were ever there at the same time
}

func newPlain() *plain { return &plain{texts: map[int]string{}, uses: map[int]int{}} }

func (p *plain) find(text string) (int, bool) {
	for n, s := range p.texts {
		if s == text {
			return n, true
		}
	}
	return 0, false
}

func (p *plain) take(text string) int {
	n, there := p.find(text)
	if !there {
		for p.uses[n] > 0 {
			n++
		}
		p.texts[n] = text
	}
	p.uses[n]++
	p.most = max(p.most, len(p.texts))
	return n
}

func (p *plain) drop(n int) api.Errno {
	if p.uses[n] == 0 {
		return api.ErrNone
	}
	p.uses[n]--
	if p.uses[n] == 0 {
		delete(p.uses, n)
		delete(p.texts, n)
	}
	return api.OK
}

// pair is what an iteration yields once.
type pair struct {
	n    int
	text string
}

func pairs(x *intern.Table) []pair {
	var out []pair
	for n, s := range x.Each() {
		out = append(out, pair{n, s})
	}
	return out
}

func mustTake(t *testing.T, x *intern.Table, text string, want int) {
	t.Helper()
	if n, e := x.Take(text); n != want || e != api.OK {
		t.Fatalf("Take(%q) = %d, %d, want %d, OK", text, n, e, want)
	}
}

func mustDrop(t *testing.T, x *intern.Table, n int) {
	t.Helper()
	if e := x.Drop(n); e != api.OK {
		t.Fatalf("Drop(%d) = %d, want OK", n, e)
	}
}

// same compares all that a table tells with what the chapter says.
func same(t *testing.T, x *intern.Table, p *plain, texts []string) {
	t.Helper()
	if x.Len() != len(p.texts) {
		t.Fatalf("Len() = %d, want %d", x.Len(), len(p.texts))
	}
	var want []pair
	for _, n := range slices.Sorted(maps.Keys(p.texts)) {
		want = append(want, pair{n, p.texts[n]})
		if n >= p.most {
			t.Fatalf("the number %d is not below %d", n, p.most)
		}
	}
	if got := pairs(x); !slices.Equal(got, want) {
		t.Fatalf("Each() = %v, want %v", got, want)
	}
	for n := -2; n < p.most+2; n++ {
		sameNumber(t, x, p, n)
	}
	for _, s := range texts {
		n, there := x.Find(s)
		if wn, wt := p.find(s); n != wn || there != wt {
			t.Fatalf("Find(%q) = %d, %v, want %d, %v", s, n, there, wn, wt)
		}
	}
}

func sameNumber(t *testing.T, x *intern.Table, p *plain, n int) {
	t.Helper()
	want := api.OK
	if p.uses[n] == 0 {
		want = api.ErrNone
	}
	if s, e := x.Text(n); s != p.texts[n] || e != want {
		t.Fatalf("Text(%d) = %q, %d, want %q, %d", n, s, e, p.texts[n], want)
	}
	if x.Uses(n) != p.uses[n] {
		t.Fatalf("Uses(%d) = %d, want %d", n, x.Uses(n), p.uses[n])
	}
}

// step does one of the calls with both; those from len(texts) on drop a number.
func step(t *testing.T, x *intern.Table, p *plain, texts []string, call int) {
	t.Helper()
	if call < len(texts) {
		mustTake(t, x, texts[call], p.take(texts[call]))
		return
	}
	n := call - len(texts)
	if got, want := x.Drop(n), p.drop(n); got != want {
		t.Fatalf("Drop(%d) = %d, want %d", n, got, want)
	}
}

// The example of the chapter.
func TestExample(t *testing.T) {
	x := intern.New()
	mustTake(t, x, "a", 0)
	mustTake(t, x, "b", 1)
	mustTake(t, x, "a", 0)
	mustDrop(t, x, 0)
	mustDrop(t, x, 0)
	mustTake(t, x, "c", 0)
}

// P2.1: a new table is empty, and is no other one.
func TestNew(t *testing.T) {
	x, y := intern.New(), intern.New()
	same(t, x, newPlain(), []string{"", "a"})
	mustTake(t, x, "a", 0)
	same(t, y, newPlain(), []string{"", "a"})
	mustTake(t, y, "b", 0)
	if s, e := x.Text(0); s != "a" || e != api.OK {
		t.Error(s, e)
	}
}

// P2.1: the lengths of strings, of any bytes.
func TestTakeLengths(t *testing.T) {
	x := intern.New()
	for _, n := range []int{0, api.MaxSpelling + 1, api.MaxSpelling + 2, 1 << 16} {
		if got, e := x.Take(strings.Repeat("a", n)); got != 0 || e != api.ErrArg {
			t.Errorf("Take of %d bytes = %d, %d, want ErrArg", n, got, e)
		}
		if got, there := x.Find(strings.Repeat("a", n)); got != 0 || there {
			t.Errorf("Find of %d bytes = %d, %v", n, got, there)
		}
	}
	if x.Len() != 0 {
		t.Error("a string that was refused is there")
	}
	for i, s := range []string{"a", strings.Repeat("a", api.MaxSpelling), "\x00", "\xff\xfe", strings.Repeat("é", 127), "says", " ", "A"} {
		mustTake(t, x, s, i)
		if got, e := x.Text(i); got != s || e != api.OK {
			t.Errorf("Text(%d) = %q, %d, want %q", i, got, e, s)
		}
	}
	if _, e := x.Take(strings.Repeat("é", 128)); e != api.ErrArg {
		t.Error("the length is one of bytes, not of runes:", e)
	}
}

// P2.1: numbers that no string has.
func TestDropNone(t *testing.T) {
	x := intern.New()
	mustTake(t, x, "a", 0)
	mustTake(t, x, "b", 1)
	mustDrop(t, x, 0)
	for _, n := range []int{0, 2, 3, -1, -2, 1 << 62, -1 << 63, 1<<63 - 1} {
		if e := x.Drop(n); e != api.ErrNone {
			t.Errorf("Drop(%d) = %d, want ErrNone", n, e)
		}
		if s, e := x.Text(n); s != "" || e != api.ErrNone {
			t.Errorf("Text(%d) = %q, %d, want ErrNone", n, s, e)
		}
		if u := x.Uses(n); u != 0 {
			t.Errorf("Uses(%d) = %d, want 0", n, u)
		}
	}
	if got := pairs(x); !slices.Equal(got, []pair{{1, "b"}}) {
		t.Error(got)
	}
	mustTake(t, x, "c", 0)
}

// P2.1: the smallest free number is given, in whichever order they were freed.
func TestSmallestFirst(t *testing.T) {
	x := intern.New()
	for i := range 8 {
		mustTake(t, x, strconv.Itoa(i), i)
	}
	for _, n := range []int{5, 2, 7, 0, 3} {
		mustDrop(t, x, n)
	}
	for i, n := range []int{0, 2, 3, 5, 7, 8} {
		mustTake(t, x, "new"+strconv.Itoa(i), n)
	}
}

// P2.1, P2.2, P2.3: each list of up to 7 calls with two strings and two numbers.
func TestAllShortLists(t *testing.T) {
	texts := []string{"a", "b"}
	const calls, length = 4, 7
	total := 1
	for range length {
		total *= calls
	}
	for list := range total {
		x, p := intern.New(), newPlain()
		for rest := list; rest > 0; rest /= calls {
			step(t, x, p, texts, rest%calls)
		}
		same(t, x, p, texts)
	}
}

// P2.1, P2.2, P2.3: long lists of calls, looked at after each.
func TestLongLists(t *testing.T) {
	var texts []string
	for i := range 12 {
		texts = append(texts, strings.Repeat("x", i)+"y")
	}
	x, p := intern.New(), newPlain()
	state := uint32(1)
	for range 6000 {
		state = state*1664525 + 1013904223
		step(t, x, p, texts, int(state>>16)%(2*len(texts)+1))
		same(t, x, p, texts)
	}
}

// P2.1: with MaxTexts strings there is no room for another one, but for those that are there.
func TestFull(t *testing.T) {
	x := intern.New()
	for i := range api.MaxTexts {
		mustTake(t, x, strconv.Itoa(i), i)
	}
	full := func() {
		t.Helper()
		if n, e := x.Take("new"); n != 0 || e != api.ErrFull {
			t.Errorf("Take of a full table = %d, %d, want ErrFull", n, e)
		}
		if _, there := x.Find("new"); there || x.Len() != api.MaxTexts {
			t.Error("a string that was refused is there")
		}
	}
	full()
	for _, s := range []string{"", strings.Repeat("a", 256)} {
		if n, e := x.Take(s); n != 0 || e != api.ErrArg {
			t.Errorf("Take of %d bytes of a full table = %d, %d, want ErrArg", len(s), n, e)
		}
	}
	mustTake(t, x, "77", 77)
	mustDrop(t, x, 77)
	full()
	mustDrop(t, x, 77)
	mustDrop(t, x, 65535)
	mustTake(t, x, "new", 77)
	mustTake(t, x, "newer", 65535)
	if _, e := x.Take("newest"); e != api.ErrFull {
		t.Error(e)
	}
	if got := pairs(x); len(got) != api.MaxTexts || got[77].text != "new" || got[65535].text != "newer" {
		t.Error("Each of a full table")
	}
}

// P2.3: a table that is emptied again and again has no number that it does not need.
func TestNumbersStayBelow(t *testing.T) {
	x := intern.New()
	for round := range 50 {
		for i := range 20 {
			n, e := x.Take(strconv.Itoa(round*100 + i))
			if n >= 20 || e != api.OK {
				t.Fatal(n, e)
			}
		}
		for i := range 20 {
			mustDrop(t, x, (i*7+round)%20)
		}
	}
}

// P2.2: what an iteration yields was there when it began, and is not changed by calls during it.
func TestEachAsItBegins(t *testing.T) {
	x := intern.New()
	each := x.Each()
	for i, s := range []string{"a", "b", "c", "d"} {
		mustTake(t, x, s, i)
	}
	var got []pair
	for n, s := range each {
		got = append(got, pair{n, s})
		if len(got) == 1 {
			mustDrop(t, x, 1)
			mustDrop(t, x, 2)
			mustTake(t, x, "new", 1)
			mustTake(t, x, "newer", 2)
			mustTake(t, x, "newest", 4)
			mustDrop(t, x, 3)
		}
	}
	if want := []pair{{0, "a"}, {1, "b"}, {2, "c"}, {3, "d"}}; !slices.Equal(got, want) {
		t.Errorf("got %v, want %v", got, want)
	}
	got = nil
	for n, s := range each {
		got = append(got, pair{n, s})
	}
	if want := []pair{{0, "a"}, {1, "new"}, {2, "newer"}, {4, "newest"}}; !slices.Equal(got, want) {
		t.Errorf("the second time: got %v, want %v", got, want)
	}
}

// Rule 4: an iteration can be left early, and one can run within another.
func TestEachLeftEarly(t *testing.T) {
	x := intern.New()
	mustTake(t, x, "a", 0)
	mustTake(t, x, "b", 1)
	mustTake(t, x, "c", 2)
	mustDrop(t, x, 0)
	each := x.Each()
	got := ""
	for range 2 {
		for _, s := range each {
			got += s
			break
		}
	}
	for _, s := range each {
		for _, r := range each {
			got += s + r
		}
	}
	if got != "bb"+"bbbccbcc" {
		t.Error(got)
	}
}

// Rule 3: a text that was passed is not kept: what becomes of its memory later does not matter.
func TestTextsAreNotKept(t *testing.T) {
	x := intern.New()
	memory := []byte("abc")
	mustTake(t, x, unsafe.String(&memory[0], len(memory)), 0)
	copy(memory, "xyz")
	if s, e := x.Text(0); s != "abc" || e != api.OK {
		t.Error(s, e)
	}
	if _, there := x.Find("abc"); !there {
		t.Error("abc is lost")
	}
	mustDrop(t, x, 0)
	mustTake(t, x, "xyz", 0)
}

// Rule 8: objects that New did not return, also a copy of one that it did.
func TestNotMade(t *testing.T) {
	good := intern.New()
	mustTake(t, good, "a", 0)
	copied := *good
	for i, x := range []*intern.Table{nil, {}, &copied} {
		if n, e := x.Take("a"); n != 0 || e != api.ErrNil {
			t.Error(i, n, e)
		}
		if n, e := x.Take(""); n != 0 || e != api.ErrNil {
			t.Error(i, "ErrNil stands before ErrArg:", n, e)
		}
		if s, e := x.Text(0); s != "" || e != api.ErrNil {
			t.Error(i, s, e)
		}
		if n, there := x.Find("a"); n != 0 || there {
			t.Error(i, n, there)
		}
		if e := x.Drop(0); e != api.ErrNil {
			t.Error(i, e)
		}
		if x.Uses(0) != 0 || x.Len() != 0 || pairs(x) != nil {
			t.Error(i, "Uses, Len or Each tells something")
		}
	}
	if n, there := good.Find("a"); n != 0 || !there || good.Uses(0) != 1 {
		t.Error("a call on a copy changed the table")
	}
}

// A table has the chapter's methods alone: none of those of the heap is promoted to it.
func TestNoOtherMethods(t *testing.T) {
	var x any = intern.New()
	switch x.(type) {
	case interface{ Push(any) }, interface{ Pop() any }, interface{ Less(i, j int) bool }, interface{ Swap(i, j int) }:
		t.Error("a table shows its heap")
	}
}
