package ring

import (
	"math"
	"slices"
	"testing"

	"pendulum/api"
)

func newRing[T any](t *testing.T, places int) *Ring[T] {
	t.Helper()
	r, e := New[T](places)
	if e != api.OK || r == nil {
		t.Fatalf("New(%d): %v, %d", places, r, e)
	}
	return r
}

// model is a ring as plainly as can be: a list that is moved at each step.
type model struct {
	places int
	list   []int
}

func (m *model) put(x int) api.Errno {
	if len(m.list) == m.places {
		return api.ErrFull
	}
	m.list = append(slices.Clone(m.list), x)
	return api.OK
}

func (m *model) push(x int) bool {
	gone := len(m.list) == m.places
	if gone {
		m.list = m.list[1:]
	}
	m.put(x)
	return gone
}

func (m *model) take() (int, bool) {
	if len(m.list) == 0 {
		return 0, false
	}
	x := m.list[0]
	m.list = m.list[1:]
	return x, true
}

// same holds all that a ring tells of its list against the model.
func same(t *testing.T, r *Ring[int], m *model) {
	t.Helper()
	if r.Len() != len(m.list) {
		t.Fatalf("Len: %d; want %d", r.Len(), len(m.list))
	}
	if l := r.All(); !slices.Equal(l, m.list) {
		t.Fatalf("All: %v; want %v", l, m.list)
	}
	for i := -2; i <= m.places+1; i++ {
		want, there := 0, i >= 0 && i < len(m.list)
		if there {
			want = m.list[i]
		}
		if x, ok := r.At(i); x != want || ok != there {
			t.Fatalf("At(%d): %d, %v; want %d, %v", i, x, ok, want, there)
		}
	}
}

// step does one of three things to both, and holds the answers against each other.
func step(t *testing.T, r *Ring[int], m *model, what, x int) {
	t.Helper()
	switch what {
	case 0:
		if e, want := r.Put(x), m.put(x); e != want {
			t.Fatalf("Put: %d; want %d", e, want)
		}
	case 1:
		if gone, want := r.Push(x), m.push(x); gone != want {
			t.Fatalf("Push: %v; want %v", gone, want)
		}
	case 2:
		n, ok := r.Take()
		if want, there := m.take(); n != want || ok != there {
			t.Fatalf("Take: %d, %v; want %d, %v", n, ok, want, there)
		}
	}
}

func TestNew(t *testing.T) { // P2.1
	for _, n := range []int{1, 2, 3, 100, 4095, 4096} {
		r := newRing[int](t, n)
		if r.Len() != 0 || len(r.All()) != 0 {
			t.Errorf("New(%d): %v isn't empty", n, r.All())
		}
		if x, ok := r.Take(); ok || x != 0 {
			t.Errorf("New(%d), Take: %d, %v", n, x, ok)
		}
		if x, ok := r.At(0); ok || x != 0 {
			t.Errorf("New(%d), At(0): %d, %v", n, x, ok)
		}
	}
}

func TestNewOfWrongNumbers(t *testing.T) { // P2.1
	for _, n := range []int{0, -1, -4096, 4097, 8192, 1 << 16, 1 << 32, 1<<32 + 1, math.MinInt, math.MaxInt} {
		if r, e := New[int](n); r != nil || e != api.ErrArg {
			t.Errorf("New[int](%d): %v, %d; want nil, ErrArg", n, r, e)
		}
		if r, e := New[string](n); r != nil || e != api.ErrArg {
			t.Errorf("New[string](%d): %v, %d; want nil, ErrArg", n, r, e)
		}
	}
}

func TestOnePlace(t *testing.T) { // P2.1, the chapter's example
	r := newRing[string](t, 1)
	if e := r.Put("a"); e != api.OK {
		t.Errorf("first Put: %d", e)
	}
	if e := r.Put("b"); e != api.ErrFull {
		t.Errorf("second Put: %d; want ErrFull", e)
	}
	if l := r.All(); !slices.Equal(l, []string{"a"}) {
		t.Errorf("a Put that is refused changed the list: %v", l)
	}
	if !r.Push("c") {
		t.Error("Push where all places are taken: nothing went")
	}
	if x, ok := r.Take(); x != "c" || !ok {
		t.Errorf("Take: %q, %v; want c, true", x, ok)
	}
	if r.Push("d") {
		t.Error("Push where a place is free: something went")
	}
}

func TestPutWhereAllAreTaken(t *testing.T) { // P2.1
	for _, n := range []int{1, 2, 5, 4096} {
		for _, first := range []int{0, 1, n / 2, n - 1} {
			r, m := newRing[int](t, n), &model{places: n}
			for i := range n + first {
				step(t, r, m, 1, i)
			}
			for range 3 {
				if e := r.Put(-1); e != api.ErrFull {
					t.Fatalf("%d places, Put: %d; want ErrFull", n, e)
				}
				same(t, r, m)
			}
			step(t, r, m, 2, 0)
			step(t, r, m, 0, -2)
			same(t, r, m)
		}
	}
}

func TestPushWhereAllAreTaken(t *testing.T) { // P2.1
	r := newRing[int](t, 3)
	var gone []bool
	for i := range 8 {
		gone = append(gone, r.Push(i))
	}
	if !slices.Equal(gone, []bool{false, false, false, true, true, true, true, true}) {
		t.Errorf("Push told %v", gone)
	}
	if l := r.All(); !slices.Equal(l, []int{5, 6, 7}) {
		t.Errorf("All: %v; want the last three", l)
	}
}

func TestTakeOfNone(t *testing.T) { // P2.1
	r := newRing[api.Event](t, 2)
	for round := range 5 {
		r.Put(api.Event{At: round, What: api.Released})
		if e, ok := r.Take(); !ok || e != (api.Event{At: round, What: api.Released}) {
			t.Errorf("Take: %v, %v", e, ok)
		}
		if e, ok := r.Take(); ok || e != (api.Event{}) {
			t.Errorf("Take of none: %v, %v", e, ok)
		}
		if r.Len() != 0 {
			t.Errorf("Len behind a Take of none: %d", r.Len())
		}
	}
}

func TestAt(t *testing.T) { // P2.2
	r := newRing[string](t, 4)
	for _, x := range []string{"a", "b", "c", "d", "e", "f"} {
		r.Push(x)
	}
	r.Take()
	for i, want := range []string{"d", "e", "f"} {
		if x, ok := r.At(i); x != want || !ok {
			t.Errorf("At(%d): %q, %v; want %q, true", i, x, ok, want)
		}
	}
	for _, i := range []int{3, 4, 5, 7, 8, -1, -2, -4, math.MaxInt, math.MaxInt - 1, math.MinInt} {
		if x, ok := r.At(i); x != "" || ok {
			t.Errorf("At(%d): %q, %v; want none", i, x, ok)
		}
	}
	if l := r.All(); !slices.Equal(l, []string{"d", "e", "f"}) {
		t.Errorf("asking changed the list: %v", l)
	}
}

func TestAllWaysOfFewSteps(t *testing.T) { // P2.1, P2.2
	const steps = 8
	ways := 1
	for range steps {
		ways *= 3
	}
	for places := 1; places <= 4; places++ {
		for way := range ways {
			r, m := newRing[int](t, places), &model{places: places}
			for i := range steps {
				step(t, r, m, way%3, i+1)
				way /= 3
			}
			same(t, r, m)
		}
	}
}

func TestFilledAndEmptiedAgain(t *testing.T) { // P2.1, P2.2
	for _, n := range []int{1, 2, 3, 7, 64, 4096} {
		r, m := newRing[int](t, n), &model{places: n}
		for round := range 4 {
			for i := range n {
				step(t, r, m, 0, round*n+i+1)
			}
			step(t, r, m, 0, -1)
			same(t, r, m)
			// A push into a full ring moves the list by one place, so that each round begins at another one.
			step(t, r, m, 1, round*n+n+1)
			same(t, r, m)
			for range n {
				step(t, r, m, 2, 0)
			}
			step(t, r, m, 2, 0)
			same(t, r, m)
		}
	}
}

func TestZeroIsAValue(t *testing.T) { // P2.1, P2.2
	r := newRing[*int](t, 2)
	r.Put(nil)
	if x, ok := r.At(0); x != nil || !ok {
		t.Errorf("At(0): %v, %v; want nil, true", x, ok)
	}
	if x, ok := r.Take(); x != nil || !ok {
		t.Errorf("Take: %v, %v; want nil, true", x, ok)
	}
	e := newRing[struct{}](t, 2)
	if e.Push(struct{}{}) || e.Push(struct{}{}) || !e.Push(struct{}{}) || e.Len() != 2 {
		t.Errorf("a ring of nothings: Len %d", e.Len())
	}
}

func TestAnswersAreNewMemory(t *testing.T) { // P2.3
	for _, first := range []int{0, 1, 2, 3} {
		r, m := newRing[int](t, 4), &model{places: 4}
		for i := range 4 + first {
			step(t, r, m, 1, i+1)
		}
		l, again := r.All(), r.All()
		for i := range l {
			l[i] = -1
		}
		if !slices.Equal(again, m.list) {
			t.Errorf("two answers share memory: %v", again)
		}
		same(t, r, m)
		_ = append(again[:1], -2, -3, -4, -5)
		same(t, r, m)
		kept := r.All()
		want := slices.Clone(kept)
		for i := range 6 {
			r.Take()
			r.Push(100 + i)
		}
		if !slices.Equal(kept, want) {
			t.Errorf("an answer changed with the ring: %v; want %v", kept, want)
		}
	}
}

func TestRingsShareNothing(t *testing.T) { // P2.3
	a, b := newRing[int](t, 2), newRing[int](t, 2)
	a.Put(1)
	a.Put(2)
	if b.Len() != 0 {
		t.Errorf("a new ring holds %v", b.All())
	}
	b.Put(3)
	if !slices.Equal(a.All(), []int{1, 2}) || !slices.Equal(b.All(), []int{3}) {
		t.Errorf("%v, %v", a.All(), b.All())
	}
}

func TestWhatIsPutIsAValue(t *testing.T) { // P2.3
	r := newRing[[2]int](t, 1)
	x := [2]int{1, 2}
	r.Put(x)
	x[0] = 9
	if y, _ := r.At(0); y != [2]int{1, 2} {
		t.Errorf("what was put changed with the argument: %v", y)
	}
	y, _ := r.At(0)
	y[1] = 9
	if z, _ := r.Take(); z != [2]int{1, 2} {
		t.Errorf("what was put changed with an answer: %v", z)
	}
}

func TestNothingIsKeptOfWhatWent(t *testing.T) { // LANGUAGE.md, rule 8
	r := newRing[*int](t, 3)
	for range 5 {
		r.Push(new(int))
	}
	r.Take()
	r.Take()
	kept := 0
	for _, p := range r.places {
		if p != nil {
			kept++
		}
	}
	if kept != r.Len() {
		t.Errorf("%d places hold something; %d are in the list", kept, r.Len())
	}
}

func TestARingOfNoPlacesDoesNotPanic(t *testing.T) { // P1
	var r Ring[int]
	if e := r.Put(1); e != api.ErrFull {
		t.Errorf("Put: %d", e)
	}
	if r.Push(1) {
		t.Error("Push: something went")
	}
	if x, ok := r.Take(); ok || x != 0 {
		t.Errorf("Take: %d, %v", x, ok)
	}
	if x, ok := r.At(0); ok || x != 0 || r.Len() != 0 || len(r.All()) != 0 {
		t.Errorf("At: %d, %v; All: %v", x, ok, r.All())
	}
}
