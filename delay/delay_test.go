package delay

import (
	"math"
	"math/rand"
	"slices"
	"sync"
	"testing"

	"pendulum/api"
)

const (
	farthest = 1 << 20 // a distance
	last     = 1 << 40 // a time
)

var (
	rightDistances = []int{1, 2, 5, 63, 64, 1000, farthest - 1, farthest}
	wrongDistances = []int{0, -1, -2, -farthest, math.MinInt, farthest + 1, farthest + 2, 2 * farthest, last, 1<<32 + 1, math.MaxInt}
	wrongTimes     = []int{-1, -2, -farthest, -last, math.MinInt, last + 1, last + 2, last + farthest, 2 * last, 1 << 62, math.MaxInt}
)

// wrongGates are numbers of which a guard of n gates has none.
func wrongGates(n int) []int {
	return []int{-1, -2, -n, -16, math.MinInt, n, n + 1, 2 * n, n + 16, n + 17, n + 1<<32, math.MaxInt}
}

// model is a guard as plainly as can be: of each gate all times at which it was gone through.
type model struct {
	apart []int
	goes  [][]int
}

func newModel(apart ...int) *model {
	return &model{apart, make([][]int, len(apart))}
}

func (m *model) open(i int) (int, bool) {
	if i < 0 || i >= len(m.apart) {
		return 0, false
	}
	if n := len(m.goes[i]); n > 0 {
		return m.goes[i][n-1] + m.apart[i], true
	}
	return 0, true
}

func (m *model) count(i int) int {
	if i < 0 || i >= len(m.apart) {
		return 0
	}
	return len(m.goes[i])
}

func (m *model) pass(i, at int) api.Errno {
	first, ok := m.open(i)
	switch {
	case !ok || at < 0 || at > last:
		return api.ErrArg
	case at < first:
		return api.ErrEarly
	}
	m.goes[i] = append(m.goes[i], at)
	return api.OK
}

func (m *model) reset() { m.goes = make([][]int, len(m.apart)) }

func newGuard(t *testing.T, apart ...int) *Guard {
	t.Helper()
	g, e := New(apart)
	if e != api.OK || g == nil {
		t.Fatalf("New(%v): %v, %d", apart, g, e)
	}
	return g
}

// holds asks a guard of all that it tells without a change, of gates that aren't there, too.
func holds(t *testing.T, g *Guard, m *model) {
	t.Helper()
	for i := -2; i <= len(m.apart)+2; i++ {
		want, there := m.open(i)
		if n, ok := g.Open(i); n != want || ok != there {
			t.Fatalf("Open(%d) of %v: %d, %v; want %d, %v", i, m, n, ok, want, there)
		}
		if n := g.Count(i); n != m.count(i) {
			t.Fatalf("Count(%d) of %v: %d; want %d", i, m, n, m.count(i))
		}
	}
}

func pass(t *testing.T, g *Guard, i, at int, want api.Errno) {
	t.Helper()
	if e := g.Go(i, at); e != want {
		first, _ := g.Open(i)
		t.Fatalf("Go(%d, %d): %d; want %d; behind it open at %d", i, at, e, want, first)
	}
}

// both goes through a gate of a guard and of its model, and holds all that they tell against each other.
func both(t *testing.T, g *Guard, m *model, i, at int) {
	t.Helper()
	pass(t, g, i, at, m.pass(i, at))
	holds(t, g, m)
}

// always is so many gates of one distance.
func always(n, apart int) []int {
	return slices.Repeat([]int{apart}, n)
}

// mixed is so many gates of distances that neither rise nor fall.
func mixed(n int) []int {
	var l []int
	for i := range n {
		l = append(l, rightDistances[(i*5+3)%len(rightDistances)])
	}
	return l
}

func TestNew(t *testing.T) { // P10.1
	for n := 1; n <= 16; n++ {
		lists := [][]int{mixed(n)}
		for _, apart := range rightDistances {
			lists = append(lists, always(n, apart))
		}
		for _, l := range lists {
			g, m := newGuard(t, l...), newModel(l...)
			holds(t, g, m)
			// Each gate has the distance that stands at its place.
			for i, apart := range l {
				both(t, g, m, i, 0)
				both(t, g, m, i, apart-1)
				both(t, g, m, i, apart)
				if g.Count(i) != 2 {
					t.Fatalf("gate %d of %v was gone through %d times; want 2", i, l, g.Count(i))
				}
			}
		}
	}
}

func TestNewOfWrongNumbersOfGates(t *testing.T) { // P10.1
	lists := [][]int{nil, {}, make([]int, 0, 20)}
	for _, n := range []int{17, 18, 31, 32, 33, 256, 257, 1000, 1 << 16} {
		for _, apart := range []int{0, 1, 5, farthest} {
			lists = append(lists, always(n, apart))
		}
	}
	for _, l := range lists {
		if g, e := New(l); g != nil || e != api.ErrArg {
			t.Errorf("New of %d distances: %v, %d; want nil, ErrArg", len(l), g, e)
		}
	}
}

func TestNewOfWrongDistances(t *testing.T) { // P10.1
	for n := 1; n <= 16; n++ {
		for _, right := range [][]int{always(n, 1), always(n, farthest), mixed(n)} {
			for i := range right {
				for _, apart := range wrongDistances {
					l := slices.Clone(right)
					l[i] = apart
					if g, e := New(l); g != nil || e != api.ErrArg {
						t.Errorf("New(%v): %v, %d; want nil, ErrArg", l, g, e)
					}
				}
			}
		}
		for _, apart := range wrongDistances {
			if g, e := New(always(n, apart)); g != nil || e != api.ErrArg {
				t.Errorf("New of %d times %d: %v, %d; want nil, ErrArg", n, apart, g, e)
			}
		}
	}
}

func TestTheExample(t *testing.T) { // P10.1
	g, m := newGuard(t, 5), newModel(5)
	for _, x := range []struct {
		at   int
		want api.Errno
		open int
	}{{3, api.OK, 8}, {7, api.ErrEarly, 8}, {8, api.OK, 13}} {
		pass(t, g, 0, x.at, x.want)
		m.pass(0, x.at)
		holds(t, g, m)
		if n, ok := g.Open(0); n != x.open || !ok {
			t.Errorf("behind Go at %d: Open: %d, %v; want %d, true", x.at, n, ok, x.open)
		}
	}
}

func TestNeverGoneThrough(t *testing.T) { // P10.1: open from 0 on
	for _, apart := range rightDistances {
		for _, at := range []int{0, 1, apart - 1, apart, apart + 1, last - apart, last - 1, last} {
			g, m := newGuard(t, 7, apart, 7), newModel(7, apart, 7)
			if n, ok := g.Open(1); n != 0 || !ok {
				t.Fatalf("Open of distance %d: %d, %v; want 0, true", apart, n, ok)
			}
			pass(t, g, 1, at, api.OK)
			m.pass(1, at)
			holds(t, g, m)
		}
	}
}

func TestGoAroundTheDistance(t *testing.T) { // P10.1, P10.2
	for _, apart := range rightDistances {
		for _, from := range []int{0, 1, 2, 63, farthest - 1, farthest, 1 << 31, 1<<32 - 1, last / 2, last - 4*farthest} {
			for _, by := range []int{-from, -apart, -1, 0, 1, apart / 2, apart - 1} {
				if at := from + by; at >= 0 && by < apart {
					g, m := newGuard(t, apart), newModel(apart)
					both(t, g, m, 0, from)
					pass(t, g, 0, at, api.ErrEarly)
					holds(t, g, m)
					// It is no later for that.
					pass(t, g, 0, from+apart, api.OK)
				}
			}
			for _, by := range []int{apart, apart + 1, 2*apart - 1, 2 * apart, farthest} {
				g, m := newGuard(t, apart), newModel(apart)
				both(t, g, m, 0, from)
				pass(t, g, 0, from+by, api.OK)
				m.pass(0, from+by)
				holds(t, g, m)
				// From the time that it was gone through on, not from where it was open.
				pass(t, g, 0, from+by+apart-1, api.ErrEarly)
				holds(t, g, m)
				pass(t, g, 0, from+by+apart, api.OK)
			}
		}
	}
}

func TestGoNearMaxTick(t *testing.T) { // P10.1
	for _, apart := range rightDistances {
		g, m := newGuard(t, apart), newModel(apart)
		both(t, g, m, 0, last-apart-1)
		pass(t, g, 0, last-2, api.ErrEarly)
		holds(t, g, m)
		pass(t, g, 0, last, api.OK)
		// A go at MaxTick: open again behind it, but at no time that there is.
		g, m = newGuard(t, apart), newModel(apart)
		both(t, g, m, 0, last-apart)
		pass(t, g, 0, last-1, api.ErrEarly)
		pass(t, g, 0, last, api.OK)
		m.pass(0, last)
		holds(t, g, m)
		if n, ok := g.Open(0); n != last+apart || !ok {
			t.Errorf("distance %d: behind MaxTick open at %d, %v; want %d, true", apart, n, ok, last+apart)
		}
		for _, at := range []int{0, 1, last - apart, last - 1, last} {
			pass(t, g, 0, at, api.ErrEarly)
			holds(t, g, m)
		}
		for _, at := range []int{last + 1, last + apart, last + apart + 1} {
			pass(t, g, 0, at, api.ErrArg)
			holds(t, g, m)
		}
	}
}

func TestGoOfNoSuchGate(t *testing.T) { // P10.1
	for _, n := range []int{1, 2, 3, 15, 16} {
		g, m := newGuard(t, mixed(n)...), newModel(mixed(n)...)
		for range 2 {
			for _, i := range wrongGates(n) {
				for _, at := range append([]int{0, 1, 5, farthest, last - 1, last}, wrongTimes...) {
					pass(t, g, i, at, api.ErrArg)
					holds(t, g, m)
				}
			}
			// And where all gates were gone through.
			for i := range n {
				both(t, g, m, i, 100+i)
			}
		}
	}
}

func TestGoOfNoSuchTime(t *testing.T) { // P10.1
	for _, n := range []int{1, 2, 3, 15, 16} {
		g, m := newGuard(t, mixed(n)...), newModel(mixed(n)...)
		for _, first := range []int{-1, 0, 77, last} {
			if first >= 0 {
				g.Reset()
				m.reset()
				for i := range n {
					both(t, g, m, i, first)
				}
			}
			for i := range n {
				for _, at := range wrongTimes {
					// One below 0 is early, too; but ErrArg is named first.
					pass(t, g, i, at, api.ErrArg)
					holds(t, g, m)
				}
			}
		}
	}
}

func TestOpenAndCountOfNoSuchGate(t *testing.T) { // P10.1
	for n := 1; n <= 16; n++ {
		g, m := newGuard(t, mixed(n)...), newModel(mixed(n)...)
		for range 2 {
			for _, i := range wrongGates(n) {
				if at, ok := g.Open(i); at != 0 || ok {
					t.Errorf("Open(%d) of %d gates: %d, %v; want 0, false", i, n, at, ok)
				}
				if c := g.Count(i); c != 0 {
					t.Errorf("Count(%d) of %d gates: %d; want 0", i, n, c)
				}
			}
			for i := range n {
				both(t, g, m, i, 3)
			}
		}
	}
}

func TestOpenAndCountChangeNothing(t *testing.T) { // P10.1
	g, m := newGuard(t, 5, 9), newModel(5, 9)
	both(t, g, m, 0, 4)
	for range 10 {
		holds(t, g, m)
	}
	both(t, g, m, 0, 8)
	both(t, g, m, 0, 9)
	both(t, g, m, 1, 0)
}

func TestReset(t *testing.T) { // P10.1
	for n := 1; n <= 16; n++ {
		l := mixed(n)
		g, m := newGuard(t, l...), newModel(l...)
		g.Reset()
		holds(t, g, m)
		for _, at := range []int{last, 0, 5, last - 1, 1} {
			for i := range n {
				both(t, g, m, i, at)
				both(t, g, m, i, min(at+l[i], last))
			}
			g.Reset()
			m.reset()
			holds(t, g, m)
			for i := range n {
				if first, ok := g.Open(i); first != 0 || !ok || g.Count(i) != 0 {
					t.Fatalf("behind Reset: Open(%d): %d, %v, Count: %d; want 0, true, 0", i, first, ok, g.Count(i))
				}
			}
			g.Reset()
			holds(t, g, m)
		}
		// The distances are what they were.
		for i, apart := range l {
			both(t, g, m, i, 0)
			pass(t, g, i, apart-1, api.ErrEarly)
			both(t, g, m, i, apart)
		}
	}
}

func TestEarlyChangesNothing(t *testing.T) { // P10.2
	l := mixed(16)
	for early := range l {
		g, m := newGuard(t, l...), newModel(l...)
		for i := range l {
			both(t, g, m, i, 10+i)
		}
		both(t, g, m, early, 10+early+l[early])
		first, _ := g.Open(early)
		for _, at := range []int{0, 9, first - l[early], first - 1, first / 2} {
			for range 3 {
				pass(t, g, early, at, api.ErrEarly)
				holds(t, g, m)
			}
		}
		for i := range l {
			first, _ := m.open(i)
			both(t, g, m, i, first-1)
			pass(t, g, i, first, api.OK)
			m.pass(i, first)
			holds(t, g, m)
		}
	}
}

func TestGatesDoNotTouch(t *testing.T) { // P10.2: a gate among others answers as it does alone
	r := rand.New(rand.NewSource(102))
	for range 200 {
		n := 1 + r.Intn(16)
		var l []int
		var alone []*Guard
		for range n {
			apart := 1 + r.Intn(20)
			l = append(l, apart)
			alone = append(alone, newGuard(t, apart))
		}
		g := newGuard(t, l...)
		for at := 0; at < 200; at += r.Intn(4) {
			i := r.Intn(n)
			pass(t, g, i, at, alone[i].Go(0, at))
			for j, x := range alone {
				first, ok := g.Open(j)
				if one, there := x.Open(0); first != one || ok != there || g.Count(j) != x.Count(0) {
					t.Fatalf("gate %d of %v: open at %d, Count %d; alone %d, %d", j, l, first, g.Count(j), one, x.Count(0))
				}
			}
		}
	}
}

func TestOneDistanceInAllGates(t *testing.T) { // P10.2: gates of one distance stay gates of their own
	l := always(16, 10)
	g, m := newGuard(t, l...), newModel(l...)
	for round := range 3 {
		for i := range l {
			at := 100*round + 37*i%50
			both(t, g, m, i, at)
			both(t, g, m, i, at+9)
			both(t, g, m, i, at+10)
		}
	}
	for i := range l {
		if g.Count(i) != 6 {
			t.Errorf("Count(%d): %d; want 6", i, g.Count(i))
		}
	}
}

func TestGoesAreApart(t *testing.T) { // P10.2
	r := rand.New(rand.NewSource(10))
	for range 300 {
		n := 1 + r.Intn(16)
		var l []int
		for range n {
			l = append(l, 1+r.Intn([]int{1, 5, 100, farthest}[r.Intn(4)]))
		}
		g := newGuard(t, l...)
		goes := make([][]int, n)
		// The times don't rise alone: some go far back.
		most := []int{30, 1000, 40 * farthest, last}[r.Intn(4)]
		for k := range 400 {
			i, at := r.Intn(n), min((most/400+1)*k, last)
			if r.Intn(3) == 0 {
				at = r.Intn(most + 1)
			}
			if g.Go(i, at) == api.OK {
				goes[i] = append(goes[i], at)
			}
		}
		for i, times := range goes {
			for k := 1; k < len(times); k++ {
				if times[k]-times[k-1] < l[i] {
					t.Fatalf("distance %d: gone through at %d and %d", l[i], times[k-1], times[k])
				}
			}
			if g.Count(i) != len(times) {
				t.Fatalf("Count(%d): %d; want %d", i, g.Count(i), len(times))
			}
		}
	}
}

func TestGoAtEachTick(t *testing.T) { // P10.1, P10.2: what asks at each tick goes through just as often as it may
	for apart := 1; apart <= 20; apart++ {
		for first := range 3 {
			g, m := newGuard(t, apart), newModel(apart)
			for at := first; at < 200; at++ {
				want := api.ErrEarly
				if (at-first)%apart == 0 {
					want = api.OK
				}
				pass(t, g, 0, at, want)
				m.pass(0, at)
				holds(t, g, m)
			}
			if want := (200 - first + apart - 1) / apart; g.Count(0) != want {
				t.Errorf("distance %d from %d on: %d goes; want %d", apart, first, g.Count(0), want)
			}
		}
	}
}

func TestAllWaysOfFewSteps(t *testing.T) { // P10.1, P10.2
	const steps = 4
	type deed struct{ i, at int } // of the gate 9: Reset
	deeds := []deed{{9, 0}, {2, 1}, {0, -1}, {1, last + 1}}
	for i := range 2 {
		for _, at := range []int{0, 1, 2, 3, 5, last} {
			deeds = append(deeds, deed{i, at})
		}
	}
	ways := 1
	for range steps {
		ways *= len(deeds)
	}
	for _, l := range [][]int{{1, 1}, {1, 3}, {2, 1}, {3, 2}, {5, farthest}} {
		for way := range ways {
			g, m := newGuard(t, l...), newModel(l...)
			for range steps {
				do := deeds[way%len(deeds)]
				way /= len(deeds)
				if do.i == 9 {
					g.Reset()
					m.reset()
					continue
				}
				pass(t, g, do.i, do.at, m.pass(do.i, do.at))
			}
			holds(t, g, m)
		}
	}
}

func TestManySteps(t *testing.T) { // P10.1, P10.2
	r := rand.New(rand.NewSource(1))
	for range 200 {
		n := 1 + r.Intn(16)
		var l []int
		for range n {
			l = append(l, 1+r.Intn([]int{1, 3, 50, 2000, farthest}[r.Intn(5)]))
		}
		g, m := newGuard(t, l...), newModel(l...)
		for range 300 {
			if r.Intn(80) == 0 {
				g.Reset()
				m.reset()
			}
			i := r.Intn(n+2) - 1
			// Most goes are at the time from which the gate is open, or beside it.
			first, _ := m.open(i)
			at := first - 2 + r.Intn(5)
			if r.Intn(6) == 0 {
				at = []int{-1, 0, 1, r.Intn(last), first + farthest, last, last + 1}[r.Intn(7)]
			}
			both(t, g, m, i, at)
		}
	}
}

func TestDistancesStay(t *testing.T) { // P10.3: New changes nothing in what it is given
	for _, l := range [][]int{nil, {}, {5}, {9, 1, 5}, mixed(16), {5, 0, 7}, {farthest + 1, 3}, always(17, 2)} {
		given := append(slices.Clone(l), 70, 71, 72)
		want := slices.Clone(given)
		g, e := New(given[:len(l)])
		if e == api.OK {
			for i := range l {
				g.Go(i, 4)
				g.Go(i, 5)
				g.Go(i, last)
			}
			g.Reset()
			g.Go(0, 1)
		}
		if !slices.Equal(given, want) {
			t.Errorf("New(%v) changed it to %v", want, given)
		}
	}
}

func TestDistancesAreNotKept(t *testing.T) { // P10.3
	for n := 1; n <= 16; n++ {
		for _, later := range []int{0, -1, 1, 2, farthest, math.MaxInt} {
			given := make([]int, n, n+3)
			copy(given, mixed(n))
			g, m := newGuard(t, given...), newModel(mixed(n)...)
			for i := range given {
				given[i] = later
			}
			_ = append(given, later, later)
			holds(t, g, m)
			for i, apart := range m.apart {
				both(t, g, m, i, 6)
				both(t, g, m, i, 6+apart-1)
				both(t, g, m, i, 6+apart)
			}
			g.Reset()
			m.reset()
			both(t, g, m, 0, 0)
			both(t, g, m, 0, m.apart[0]-1)
			both(t, g, m, 0, m.apart[0])
		}
	}
}

func TestGuardsShareNothing(t *testing.T) { // P10.3
	l := []int{4, 6, 4}
	a, b := newGuard(t, l...), newGuard(t, l...)
	one, other := newModel(l...), newModel(l...)
	for at := range 40 {
		both(t, a, one, at%3, at)
		holds(t, b, other)
		both(t, b, other, 1, 3*at)
		holds(t, a, one)
	}
	a.Reset()
	one.reset()
	holds(t, a, one)
	holds(t, b, other)
	// One that is refused leaves nothing behind for the next one.
	if g, e := New([]int{3, 0}); g != nil || e != api.ErrArg {
		t.Fatalf("New: %v, %d", g, e)
	}
	holds(t, newGuard(t, 3), newModel(3))
}

func TestGuardsAtOnce(t *testing.T) { // P1
	l := mixed(16)
	var all sync.WaitGroup
	for k := range 8 {
		all.Go(func() {
			g, e := New(l)
			if e != api.OK {
				t.Error(e)
				return
			}
			m := newModel(l...)
			for at := range 20000 {
				if i := (at + k) % 16; g.Go(i, at) != m.pass(i, at) {
					t.Errorf("Go(%d, %d) isn't as it is alone", i, at)
				}
			}
		})
	}
	all.Wait()
}

func TestAGuardWithoutGatesDoesNotPanic(t *testing.T) { // P1
	var g Guard
	holds(t, &g, newModel())
	pass(t, &g, 0, 0, api.ErrArg)
	pass(t, &g, -1, -1, api.ErrArg)
	g.Reset()
	holds(t, &g, newModel())
}
