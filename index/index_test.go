package index

import (
	"fmt"
	"math"
	"regexp"
	"runtime"
	"slices"
	"strings"
	"testing"

	"pendulum/api"
)

func newIndex(t *testing.T, room int) *Index {
	t.Helper()
	x, e := New(room)
	if e != api.OK || x == nil {
		t.Fatalf("New(%d): %v, %d", room, x, e)
	}
	return x
}

// filled is a table with room for so many, that has these names.
func filled(t *testing.T, room int, names ...string) *Index {
	t.Helper()
	x := newIndex(t, room)
	for i, s := range names {
		put(t, x, s, i, api.OK)
	}
	return x
}

func put(t *testing.T, x *Index, name string, number int, want api.Errno) {
	t.Helper()
	if n, e := x.Put(name); n != number || e != want {
		t.Fatalf("Put(%q): %d, %d; want %d, %d", name, n, e, number, want)
	}
}

// holds asks a table of all that it tells: it has just these names, numbered as they stand, and none of the others.
func holds(t *testing.T, x *Index, names []string, others ...string) {
	t.Helper()
	for i, s := range names {
		if n, ok := x.Find(s); n != i || !ok {
			t.Fatalf("Find(%q): %d, %v; want %d, true", s, n, ok, i)
		}
		if got, ok := x.Name(i); got != s || !ok {
			t.Fatalf("Name(%d): %q, %v; want %q, true", i, got, ok, s)
		}
	}
	for _, s := range others {
		if n, ok := x.Find(s); n != 0 || ok {
			t.Fatalf("Find(%q): %d, %v; want 0, false", s, n, ok)
		}
	}
	for _, i := range []int{-1, -2, -256, math.MinInt, len(names), len(names) + 1, 256, 1 << 32, math.MaxInt} {
		if i >= 0 && i < len(names) {
			continue
		}
		if s, ok := x.Name(i); s != "" || ok {
			t.Fatalf("Name(%d): %q, %v; want none", i, s, ok)
		}
	}
	if l := x.Sorted(); !slices.Equal(l, slices.Sorted(slices.Values(names))) {
		t.Fatalf("Sorted: %q; want %q, rising", l, names)
	}
}

// many answers so many names, which neither rise nor fall.
func many(n int) []string {
	var l []string
	for i := range n {
		l = append(l, fmt.Sprintf("n%d", i*101%257))
	}
	return l
}

// orders calls f with each order of the names.
func orders(names []string, f func([]string)) {
	var lay func(done, left []string)
	lay = func(done, left []string) {
		if len(left) == 0 {
			f(done)
		}
		for i, s := range left {
			lay(append(slices.Clone(done), s), slices.Delete(slices.Clone(left), i, i+1))
		}
	}
	lay(nil, names)
}

// wrong are texts that are no names.
func wrong() []string {
	return []string{
		"", " ", "_", "0", "9", "_a", "1a", "9z", "A", "Z", "Ab", "aB", "abC", "a b", " a", "a ", "a\t", "a\n", "\na",
		"a-b", "a.b", "a/b", "a:", "a@", "a[", "a`b", "`a", "a{", "{a", "a\x00", "\x00", "a\x7f",
		"\x80", "a\x80", "a\xff", "\xffa", "a\xc3", "ä", "aä", "a\u0301", "а", "a٣", "ａ", "a１", "a＿", "ª",
		"abcdefghijklm", "a23456789012_", "abcdefghijk ", "abcdefghijkL", "abcdefghijkä",
		strings.Repeat("a", 13), strings.Repeat("a", 256), strings.Repeat("a", 268), strings.Repeat("a", 1<<16),
	}
}

func TestNamed(t *testing.T) { // P3.1
	for _, s := range []string{
		"a", "z", "ab", "az", "a0", "a9", "z0", "a_", "a__", "z_9", "a_b9", "a1b2c3", "x0_0", "aaaaaaaaaaaa",
		"abcdefghijk", "abcdefghijkl", "a12345678901", "a___________", "zzzzzzzzzzzz", "z0000000000_",
	} {
		if !Named(s) {
			t.Errorf("Named(%q): false", s)
		}
	}
	for _, s := range wrong() {
		if Named(s) {
			t.Errorf("Named(%q): true", s)
		}
	}
}

func TestNamedOfEachByteAtEachPlace(t *testing.T) { // P3.1
	name := regexp.MustCompile(`\A[a-z][a-z0-9_]{0,11}\z`)
	for long := 1; long <= 14; long++ {
		for at := range long {
			for c := range 256 {
				b := []byte(strings.Repeat("m", long))
				b[at] = byte(c)
				if got, want := Named(string(b)), name.Match(b); got != want {
					t.Fatalf("Named(%q): %v; want %v", b, got, want)
				}
			}
		}
	}
}

func TestNew(t *testing.T) { // P3.1
	for _, room := range []int{1, 2, 3, 100, 255, 256} {
		holds(t, newIndex(t, room), nil, "a", "", "z")
	}
}

func TestNewOfWrongRooms(t *testing.T) { // P3.1
	for _, room := range []int{0, -1, -2, -256, 257, 258, 512, 1 << 16, 1 << 32, 1<<32 + 1, math.MinInt, math.MaxInt} {
		if x, e := New(room); x != nil || e != api.ErrArg {
			t.Errorf("New(%d): %v, %d; want nil, ErrArg", room, x, e)
		}
	}
}

func TestPut(t *testing.T) { // P3.1, the chapter's example
	x := newIndex(t, 5)
	put(t, x, "a", 0, api.OK)
	put(t, x, "b", 1, api.OK)
	put(t, x, "a", 0, api.ErrTwice)
	put(t, x, "b", 0, api.ErrTwice)
	holds(t, x, []string{"a", "b"}, "c")
	// What was refused took no number.
	put(t, x, "c", 2, api.OK)
	holds(t, x, []string{"a", "b", "c"}, "d")
}

func TestPutOfNoName(t *testing.T) { // P3.1
	empty, some, full := newIndex(t, 1), filled(t, 3, "b", "a"), filled(t, 2, "b", "a")
	for _, s := range wrong() {
		for _, x := range []*Index{empty, some, full} {
			put(t, x, s, 0, api.ErrArg)
		}
	}
	holds(t, empty, nil, wrong()...)
	holds(t, some, []string{"b", "a"}, wrong()...)
	holds(t, full, []string{"b", "a"}, wrong()...)
	put(t, empty, "a", 0, api.OK)
	put(t, some, "c", 2, api.OK)
}

func TestPutWhereAllIsTaken(t *testing.T) { // P3.1
	for _, room := range []int{1, 2, 3, 17, 255, 256} {
		names := many(room)
		x := filled(t, room, names...)
		for range 2 {
			put(t, x, "m", 0, api.ErrFull)
			put(t, x, "z", 0, api.ErrFull)
			put(t, x, "n99_", 0, api.ErrFull)
			// A name that is there is told as such, though there is no room either; what is no name, ahead of both.
			for _, s := range names {
				put(t, x, s, 0, api.ErrTwice)
			}
			put(t, x, "", 0, api.ErrArg)
			put(t, x, "N1", 0, api.ErrArg)
		}
		holds(t, x, names, "m", "z", "n99_", "", "N1")
	}
}

func TestAllOrders(t *testing.T) { // P3.1, P3.2
	// A digit stands ahead of an underscore, that ahead of a letter, and a name ahead of those that begin with it.
	names := []string{"a", "a0", "a_", "aa", "ab0", "b"}
	between := []string{"", "0", "A", "_", "a00", "a1", "a__", "a_a", "aa0", "ab", "ab00", "ac", "ba", "z"}
	orders(names, func(l []string) {
		x := newIndex(t, len(l)+1)
		for i, s := range l {
			holds(t, x, l[:i], append(slices.Clone(between), l[i:]...)...)
			put(t, x, s, i, api.OK)
			put(t, x, s, 0, api.ErrTwice)
		}
		holds(t, x, l, between...)
		if got := x.Sorted(); !slices.Equal(got, names) {
			t.Fatalf("Sorted: %q; want %q", got, names)
		}
	})
}

func TestRisingAndFalling(t *testing.T) { // P3.1, P3.2
	rising := slices.Sorted(slices.Values(many(256)))
	falling := slices.Clone(rising)
	slices.Reverse(falling)
	for _, names := range [][]string{rising, falling, many(256), many(255)} {
		for _, n := range []int{0, 1, 2, 3, 7, 8, 9, 127, 128, len(names)} {
			x := filled(t, 256, names[:n]...)
			holds(t, x, names[:n], append(slices.Clone(names[n:]), "a", "n", "n0_", "n1280", "z")...)
		}
	}
}

func TestLongAndShortNames(t *testing.T) { // P3.1, P3.2
	names := []string{"abcdefghijkl", "a", "abcdefghijk", "z99999999999", "z", "a___________", "abcdefghijk_", "abcdefghijk0"}
	x := filled(t, 256, names...)
	holds(t, x, names, "abcdefghijklm", "abcdefghij", "abcdefghijkk", "abcdefghijkL", "z9999999999", "z999999999990", "zz")
}

func TestAskingChangesNothing(t *testing.T) { // P3.2
	x := filled(t, 4, "b", "a")
	for range 3 {
		holds(t, x, []string{"b", "a"}, "c", "A", "")
	}
	put(t, x, "c", 2, api.OK)
	holds(t, x, []string{"b", "a", "c"}, "d")
}

func TestNamesStandSorted(t *testing.T) { // the chapter's section 'Ways'
	x := newIndex(t, 256)
	for i, s := range many(256) {
		put(t, x, s, i, api.OK)
		if !slices.IsSortedFunc(x.sorted, func(a, b row) int { return strings.Compare(a.name, b.name) }) {
			t.Fatalf("behind %q: %v", s, x.sorted)
		}
	}
}

func TestAnswersAreNewMemory(t *testing.T) { // P3.3
	names := []string{"c", "a", "d", "b"}
	x := filled(t, 8, names...)
	l, again := x.Sorted(), x.Sorted()
	for i := range l {
		l[i] = "x"
	}
	if !slices.Equal(again, []string{"a", "b", "c", "d"}) {
		t.Errorf("two answers share memory: %q", again)
	}
	holds(t, x, names, "x")
	_ = append(x.Sorted()[:1], "y", "y", "y", "y", "y")
	holds(t, x, names, "y")
	put(t, x, "aa", 4, api.OK)
	if !slices.Equal(again, []string{"a", "b", "c", "d"}) {
		t.Errorf("an answer changed with the table: %q", again)
	}
	_ = append(again, "z")
	holds(t, x, append(names, "aa"), "x", "y", "z")
}

func TestTablesShareNothing(t *testing.T) { // P3.3
	a, b := filled(t, 2, "b", "a"), newIndex(t, 2)
	holds(t, b, nil, "a", "b")
	put(t, b, "a", 0, api.OK)
	put(t, b, "c", 1, api.OK)
	holds(t, a, []string{"b", "a"}, "c")
	holds(t, b, []string{"a", "c"}, "b")
}

func TestLongTextsAreNotKept(t *testing.T) { // LANGUAGE.md, rules 7 and 8
	x := newIndex(t, 2)
	const long = 64 << 20
	text := strings.Repeat("ab", long/2)
	put(t, x, text[:12], 0, api.OK)
	put(t, x, text[long-11:], 1, api.OK)
	runtime.GC()
	var m runtime.MemStats
	runtime.ReadMemStats(&m)
	if m.HeapAlloc > long/2 {
		t.Errorf("%d bytes are held", m.HeapAlloc)
	}
	holds(t, x, []string{"abababababab", "bababababab"}, "ab")
}

func TestATableWithNoRoomDoesNotPanic(t *testing.T) { // P1
	var x Index
	holds(t, &x, nil, "a", "")
	put(t, &x, "", 0, api.ErrArg)
	put(t, &x, "a", 0, api.ErrFull)
	holds(t, &x, nil, "a", "")
}
