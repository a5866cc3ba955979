package demand

import (
	"math"
	"math/big"
	"math/rand"
	"slices"
	"sync"
	"testing"

	"pendulum/api"
	"pendulum/task"
)

const (
	farthest = 1 << 20 // a time of a task
	dearest  = 1000    // a cost
)

var (
	modes = []int{api.Retry, api.Block, api.Backup}
	costs = []int{0, 1, 2, 7, 999, dearest}
	// far are numbers that lie out of all bounds, and some that look right when they wrap round.
	far = []int{math.MinInt, math.MinInt + 1, -1 << 62, -1 << 40, -1 << 32, -farthest, -1001, -2, -1, 0,
		farthest + 1, 2 * farthest, 1<<32 + 1, 1 << 40, 1<<62 - 1, 1 << 62, 1<<62 + 1, math.MaxInt - 1, math.MaxInt}
)

// made is a right task. What the mode doesn't take of seg and a is left out.
func made(t *testing.T, mode, c, seg, a, cost int) api.Task {
	t.Helper()
	x := api.Task{Name: "x", T: farthest, D: farthest, C: c, Cost: cost, M: 1, K: 1, Mode: mode}
	if mode == api.Retry {
		x.Seg = seg
	} else {
		x.A = a
	}
	isRight(t, x)
	return x
}

func isRight(t *testing.T, x api.Task) {
	t.Helper()
	if !task.Right(api.Set{Burst: 1, Tasks: []api.Task{x}}) {
		t.Fatalf("the test asks of a task that isn't right: %+v", x)
	}
}

// chance is a right task of any kind, whose times are at most most.
func chance(r *rand.Rand, most int) api.Task {
	x := api.Task{Name: "x", M: 1, K: 1, Mode: modes[r.Intn(3)], Prio: r.Intn(256)}
	x.T = 1 + r.Intn(most)
	x.D = 1 + r.Intn(x.T)
	x.C = 1 + r.Intn(x.D)
	x.Cost = r.Intn(dearest + 1)
	if r.Intn(2) == 0 {
		x.Cost = r.Intn(4)
	}
	if x.Mode == api.Retry {
		x.Seg = 1 + r.Intn(x.C)
	} else {
		x.A = 1 + r.Intn(x.D)
	}
	return x
}

// walked are a demand's parts, tick by tick: of Retry one is begun wherever the last one has Seg ticks.
func walked(x api.Task, d int) []int {
	var l []int
	had := 0
	for range d {
		if l == nil || x.Mode == api.Retry && had == x.Seg {
			l, had = append(l, x.Cost), 0
		}
		l[len(l)-1]++
		had++
	}
	return l
}

func sum(l []int) int {
	n := 0
	for _, part := range l {
		n += part
	}
	return n
}

// holds holds a demand's parts against the walk.
func holds(t *testing.T, x api.Task, d int) {
	t.Helper()
	if l, want := Parts(x, d), walked(x, d); !slices.Equal(l, want) {
		t.Fatalf("Parts(%+v, %d): %v; want %v", x, d, l, want)
	}
}

// small goes through right tasks of few ticks.
func small(t *testing.T, do func(x api.Task)) {
	t.Helper()
	for _, mode := range modes {
		for c := 1; c <= 24; c++ {
			for n := 1; n <= c; n++ {
				for _, cost := range costs {
					do(made(t, mode, c, n, n, cost))
				}
			}
		}
	}
}

func TestParts(t *testing.T) { // P14.1
	small(t, func(x api.Task) {
		for d := 1; d <= x.C; d++ {
			holds(t, x, d)
		}
	})
}

func TestPartsWrittenOut(t *testing.T) { // P14.1
	for _, x := range []struct {
		mode, c, seg, a, cost, d int
		want                     []int
	}{
		// The chapter's example, and its lesser demands.
		{api.Retry, 5, 2, 0, 1, 5, []int{3, 3, 2}},
		{api.Retry, 5, 2, 0, 1, 4, []int{3, 3}},
		{api.Retry, 5, 2, 0, 1, 3, []int{3, 2}},
		{api.Retry, 5, 2, 0, 1, 2, []int{3}},
		{api.Retry, 5, 2, 0, 1, 1, []int{2}},
		{api.Retry, 4, 2, 0, 0, 4, []int{2, 2}},
		{api.Retry, 4, 3, 0, 0, 4, []int{3, 1}},
		{api.Retry, 4, 4, 0, 0, 4, []int{4}},
		{api.Retry, 4, 4, 0, 0, 3, []int{3}},
		{api.Retry, 3, 1, 0, 1000, 3, []int{1001, 1001, 1001}},
		{api.Retry, 1, 1, 0, 0, 1, []int{1}},
		{api.Retry, farthest, farthest, 0, 1000, farthest, []int{farthest + 1000}},
		{api.Retry, farthest, farthest - 1, 0, 5, farthest, []int{farthest + 4, 6}},
		{api.Retry, farthest, 1 << 19, 0, 0, farthest, []int{1 << 19, 1 << 19}},
		{api.Retry, farthest, farthest, 0, 1000, 1, []int{1001}},
		{api.Block, 5, 0, 2, 1, 5, []int{6}},
		{api.Block, 5, 0, 2, 1, 1, []int{2}},
		{api.Backup, 5, 0, 2, 1, 5, []int{6}},
		{api.Backup, 5, 0, 2, 0, 3, []int{3}},
		{api.Backup, 1, 0, 1, 0, 1, []int{1}},
		{api.Block, farthest, 0, farthest, 1000, farthest, []int{farthest + 1000}},
		{api.Backup, farthest, 0, 1, 0, farthest - 1, []int{farthest - 1}},
	} {
		if l := Parts(made(t, x.mode, x.c, x.seg, x.a, x.cost), x.d); !slices.Equal(l, x.want) {
			t.Errorf("%+v: %v", x, l)
		}
	}
}

func TestPartsOfGreatTasks(t *testing.T) { // P14.1
	r := rand.New(rand.NewSource(14))
	for _, c := range []int{farthest, farthest - 1, 1 << 19, 1000003, 65537} {
		for _, seg := range []int{1, 2, 3, 7, 1000, 1023, 1024, c / 3, c/2 - 1, c / 2, c/2 + 1, c - 1, c} {
			x := made(t, api.Retry, c, seg, 0, costs[r.Intn(len(costs))])
			for _, d := range []int{1, min(seg, c-1), min(seg+1, c), c - 1, c} {
				holds(t, x, d)
			}
			for _, mode := range modes[1:] {
				x := made(t, mode, c, 0, seg, dearest)
				holds(t, x, 1)
				holds(t, x, c)
			}
		}
	}
}

func TestPartsByChance(t *testing.T) { // P14.1
	r := rand.New(rand.NewSource(141))
	for range 20000 {
		x := chance(r, 1+r.Intn(2000))
		isRight(t, x)
		holds(t, x, 1)
		holds(t, x, x.C)
		holds(t, x, 1+r.Intn(x.C))
	}
}

func TestPartsOfWrongDemands(t *testing.T) { // P14.1: nothing
	small(t, func(x api.Task) {
		for _, d := range append([]int{-x.C, -x.C - 1, -x.Seg, x.C + 1, x.C + 2, x.C + max(1, x.Seg), 2 * x.C, x.C + 1<<32, x.C + farthest}, far...) {
			if l := Parts(x, d); len(l) > 0 {
				t.Fatalf("Parts(%+v, %d): %v; want none", x, d, l)
			}
		}
	})
	for _, mode := range modes {
		for _, seg := range []int{1, farthest} {
			x := made(t, mode, farthest, seg, seg, dearest)
			for _, d := range far {
				if l := Parts(x, d); len(l) > 0 {
					t.Fatalf("Parts(%+v, %d): %d parts; want none", x, d, len(l))
				}
			}
		}
	}
}

func TestWhole(t *testing.T) { // P14.1
	small(t, func(x api.Task) {
		if n := Whole(x); n != sum(walked(x, x.C)) {
			t.Fatalf("Whole(%+v): %d; want %d", x, n, sum(walked(x, x.C)))
		}
	})
	r := rand.New(rand.NewSource(142))
	for range 20000 {
		x := chance(r, 1+r.Intn(2000))
		if n := Whole(x); n != sum(walked(x, x.C)) {
			t.Fatalf("Whole(%+v): %d; want %d", x, n, sum(walked(x, x.C)))
		}
	}
}

func TestWholeWrittenOut(t *testing.T) { // P14.1
	for _, x := range []struct{ mode, c, seg, a, cost, want int }{
		{api.Retry, 5, 2, 0, 1, 8},
		{api.Retry, 6, 2, 0, 1, 9},
		{api.Retry, 6, 2, 0, 0, 6},
		{api.Retry, 6, 6, 0, 1000, 1006},
		{api.Retry, 6, 1, 0, 1000, 6006},
		{api.Retry, farthest, 1, 0, 0, farthest},
		{api.Retry, farthest, 1, 0, 1000, 1001 * farthest},
		{api.Retry, farthest, 2, 0, 1000, 501 * farthest},
		{api.Retry, farthest, farthest - 1, 0, 1000, farthest + 2000},
		{api.Retry, farthest, farthest, 0, 1000, farthest + 1000},
		{api.Block, 6, 0, 3, 2, 8},
		{api.Backup, 6, 0, 3, 2, 8},
		{api.Block, farthest, 0, farthest, 1000, farthest + 1000},
		{api.Backup, farthest, 0, 1, 0, farthest},
	} {
		if n := Whole(made(t, x.mode, x.c, x.seg, x.a, x.cost)); n != x.want {
			t.Errorf("%+v: %d", x, n)
		}
	}
}

func TestTheWholeIsTheSumOfItsParts(t *testing.T) { // P14.1
	ask := func(x api.Task) {
		t.Helper()
		if n := sum(Parts(x, x.C)); n != Whole(x) {
			t.Fatalf("%+v: the parts of C sum up to %d, Whole is %d", x, n, Whole(x))
		}
	}
	small(t, ask)
	r := rand.New(rand.NewSource(143))
	for range 300 {
		ask(chance(r, farthest))
	}
	for _, seg := range []int{1, 2, 3, 1 << 10, 1 << 19, farthest - 1, farthest} {
		for _, cost := range costs {
			for _, mode := range modes {
				ask(made(t, mode, farthest, seg, seg, cost))
			}
		}
	}
}

func TestExtra(t *testing.T) { // P14.1
	small(t, func(x api.Task) {
		want := x.A + x.Cost
		if x.Mode == api.Retry {
			want = x.Seg + x.Cost
		}
		if n := Extra(x); n != want {
			t.Fatalf("Extra(%+v): %d; want %d", x, n, want)
		}
	})
	for _, x := range []struct{ mode, c, d, seg, a, cost, want int }{
		{api.Retry, 5, 9, 2, 0, 1, 3},
		{api.Retry, 5, 9, 5, 0, 0, 5},
		{api.Retry, 5, 9, 1, 0, 1000, 1001},
		{api.Retry, farthest, farthest, farthest, 0, 1000, farthest + 1000},
		{api.Retry, farthest, farthest, 1, 0, 0, 1},
		// An alternate may ask for more than its primary.
		{api.Block, 5, 9, 0, 9, 4, 13},
		{api.Backup, 5, 9, 0, 9, 4, 13},
		{api.Block, 5, 9, 0, 1, 0, 1},
		{api.Backup, 1, farthest, 0, farthest, 1000, farthest + 1000},
		{api.Block, 1, farthest, 0, farthest, 0, farthest},
	} {
		y := api.Task{Name: "y", T: farthest, D: x.d, C: x.c, Seg: x.seg, A: x.a, Cost: x.cost, M: 1, K: 1, Mode: x.mode}
		isRight(t, y)
		if n := Extra(y); n != x.want {
			t.Errorf("%+v: %d", x, n)
		}
	}
}

func TestNothingElseCounts(t *testing.T) { // P14.1: of parts, and of what a failing one costs more
	r := rand.New(rand.NewSource(144))
	for range 5000 {
		x := chance(r, 200)
		y := x
		y.Name = "another_one"
		y.D += r.Intn(50)
		y.T = y.D + r.Intn(50)
		y.K = 1 + r.Intn(64)
		y.M = 1 + r.Intn(y.K)
		y.Prio = r.Intn(256)
		isRight(t, y)
		d := 1 + r.Intn(x.C)
		if !slices.Equal(Parts(x, d), Parts(y, d)) || Whole(x) != Whole(y) || Extra(x) != Extra(y) {
			t.Fatalf("%+v isn't as %+v", y, x)
		}
		// Nor does the alternate count for the parts.
		if y.Mode != api.Retry {
			y.A = 1 + r.Intn(y.D)
			if !slices.Equal(Parts(x, d), Parts(y, d)) || Whole(x) != Whole(y) {
				t.Fatalf("%+v has other parts than %+v", y, x)
			}
		}
	}
}

func TestCut(t *testing.T) { // P14.2
	for _, mode := range modes {
		for _, c := range []int{1, 2, 3, 10, 1000, farthest - 1, farthest} {
			x := made(t, mode, c, 1, 1, 3)
			for _, within := range []int{1, min(2, c), (c + 1) / 2, max(c-1, 1), c} {
				if n, over := Cut(x, within); n != within || over {
					t.Errorf("Cut of C %d, %d: %d, %v", c, within, n, over)
				}
			}
			for _, above := range []int{c + 1, c + 2, 2*c + 1, c + 1<<32, 1 << 40, 1 << 62, math.MaxInt - 1, math.MaxInt} {
				if n, over := Cut(x, above); n != c || !over {
					t.Errorf("Cut of C %d, %d: %d, %v; want C, true", c, above, n, over)
				}
			}
			for _, below := range []int{0, -1, -2, -c, -c - 1, -1 << 32, -1 << 62, math.MinInt + 1, math.MinInt} {
				if n, over := Cut(x, below); n != 1 || over {
					t.Errorf("Cut of C %d, %d: %d, %v; want 1, false", c, below, n, over)
				}
			}
		}
	}
}

func TestCutOfEachDemand(t *testing.T) { // P14.2
	small(t, func(x api.Task) {
		for d := -3; d <= 2*x.C+3; d++ {
			want, above := d, d > x.C
			for want > x.C {
				want--
			}
			for want < 1 {
				want++
			}
			if n, over := Cut(x, d); n != want || over != above {
				t.Fatalf("Cut of C %d, %d: %d, %v; want %d, %v", x.C, d, n, over, want, above)
			}
			// What is cut has parts.
			if n, _ := Cut(x, d); len(Parts(x, n)) == 0 {
				t.Fatalf("%+v has no parts of %d", x, n)
			}
		}
	})
}

// loaded is a set's load as whole numbers without bounds tell it: the least number of thousandths, of each task, that isn't below its whole demand by T.
func loaded(s api.Set) int {
	all := 0
	for _, x := range s.Tasks {
		asked := new(big.Int).Mul(big.NewInt(int64(sum(walked(x, x.C)))), big.NewInt(1000))
		n, left := new(big.Int).QuoRem(asked, big.NewInt(int64(x.T)), new(big.Int))
		if left.Sign() > 0 {
			n.Add(n, big.NewInt(1))
		}
		all += int(n.Int64())
	}
	return all
}

// setOf is a right set of these tasks, each of which gets a name and a priority of its own.
func setOf(t *testing.T, tasks ...api.Task) api.Set {
	t.Helper()
	s := api.Set{Burst: 1, Tasks: tasks}
	for i := range tasks {
		tasks[i].Name, tasks[i].Prio = "t"+string(rune('a'+i)), 255-3*i
	}
	if !task.Right(s) {
		t.Fatalf("the test asks of a set that isn't right: %+v", s)
	}
	return s
}

// chanceSet is a right set of so many tasks.
func chanceSet(t *testing.T, r *rand.Rand, n, most int) api.Set {
	t.Helper()
	var tasks []api.Task
	for range n {
		tasks = append(tasks, chance(r, most))
	}
	return setOf(t, tasks...)
}

func loadOf(t *testing.T, x api.Task) int {
	t.Helper()
	n, k := Load(setOf(t, x))
	if k != 1 {
		t.Errorf("%d tasks in a set of one", k)
	}
	return n
}

func TestLoad(t *testing.T) { // P14.2
	r := rand.New(rand.NewSource(145))
	for n := 1; n <= 16; n++ {
		for range 200 {
			s := chanceSet(t, r, n, 1+r.Intn(3000))
			if sum, k := Load(s); sum != loaded(s) || k != n {
				t.Fatalf("Load(%+v): %d, %d; want %d, %d", s, sum, k, loaded(s), n)
			}
		}
	}
	for range 100 {
		s := chanceSet(t, r, 1+r.Intn(3), farthest)
		if sum, k := Load(s); sum != loaded(s) || k != len(s.Tasks) {
			t.Fatalf("Load(%+v): %d, %d; want %d, %d", s, sum, k, loaded(s), len(s.Tasks))
		}
	}
}

func TestLoadWrittenOut(t *testing.T) { // P14.2
	for _, x := range []struct{ mode, period, c, seg, cost, want int }{
		{api.Retry, 100, 10, 4, 2, 160},
		{api.Block, 30, 10, 0, 2, 400},
		{api.Backup, 30, 10, 0, 2, 400},
		// Just a number of thousandths, and above and below it.
		{api.Block, 1000, 7, 0, 0, 7},
		{api.Block, 1001, 7, 0, 0, 7},
		{api.Block, 999, 7, 0, 0, 8},
		{api.Backup, 3, 1, 0, 0, 334},
		{api.Backup, 3, 2, 0, 0, 667},
		{api.Backup, 3, 3, 0, 0, 1000},
		{api.Retry, 7, 7, 7, 0, 1000},
		{api.Retry, 7, 7, 7, 1, 1143},
		{api.Retry, 2000, 1, 1, 0, 1},
		{api.Retry, 1999, 2, 2, 0, 2},
		// The least and the greatest loads.
		{api.Block, farthest, 1, 0, 0, 1},
		{api.Block, farthest, farthest, 0, 0, 1000},
		{api.Block, farthest, farthest, 0, 1, 1001},
		{api.Retry, farthest, farthest, 1, 0, 1000},
		{api.Retry, farthest, farthest, 1, 1000, 1001000},
		{api.Retry, 1, 1, 1, 1000, 1001000},
		{api.Backup, 1, 1, 0, 1000, 1001000},
	} {
		y := api.Task{Name: "y", T: x.period, D: x.period, C: x.c, Seg: x.seg, Cost: x.cost, M: 1, K: 1, Mode: x.mode}
		if x.mode != api.Retry {
			y.A = 1
		}
		if n := loadOf(t, y); n != x.want {
			t.Errorf("%+v: %d", x, n)
		}
	}
}

func TestLoadAroundEachThousandth(t *testing.T) { // P14.2
	for n := 1; n <= 1000; n++ {
		// Of a period of 2^17 times 8 a thousandth isn't a number of ticks; of 8000 it is.
		for _, period := range []int{8000, farthest} {
			just := n * period / 1000
			for c := max(1, just-1); c <= min(period, just+1); c++ {
				x := made(t, api.Block, c, 0, 1, 0)
				x.T, x.D = period, period
				got := loadOf(t, x)
				if got*period < 1000*c || (got-1)*period >= 1000*c {
					t.Fatalf("%d of %d: %d thousandths", c, period, got)
				}
			}
		}
	}
}

func TestEachLoadIsRoundedUpByItself(t *testing.T) { // P14.2
	var thirds []api.Task
	for n := 1; n <= 16; n++ {
		x := made(t, modes[n%3], 1, 1, 1, 0)
		x.T, x.D = 3, 3
		thirds = append(thirds, x)
		if sum, k := Load(setOf(t, thirds...)); sum != 334*n || k != n {
			t.Errorf("of %d tasks, a third each: %d, %d", n, sum, k)
		}
	}
}

func TestTheGreatestLoad(t *testing.T) { // P14.2
	s := setOf(t, slices.Repeat([]api.Task{made(t, api.Retry, farthest, 1, 0, dearest)}, 16)...)
	if sum, k := Load(s); sum != 16*1001000 || k != 16 {
		t.Errorf("%d, %d", sum, k)
	}
}

func TestALesserDemandAsksForNoMore(t *testing.T) { // P14.3
	small(t, func(x api.Task) {
		last := 0
		for d := 1; d <= x.C; d++ {
			l := Parts(x, d)
			if sum(l) < last {
				t.Fatalf("%+v: the parts of %d sum up to %d, of %d to %d", x, d, sum(l), d-1, last)
			}
			last = sum(l)
			if x.Mode == api.Retry && slices.Max(l) > Extra(x) {
				t.Fatalf("%+v: a part of %v is longer than %d", x, l, Extra(x))
			}
		}
		if last != Whole(x) {
			t.Fatalf("%+v: the parts of C sum up to %d, Whole is %d", x, last, Whole(x))
		}
	})
}

func TestALesserDemandOfGreatTasks(t *testing.T) { // P14.3
	r := rand.New(rand.NewSource(146))
	for range 300 {
		x := chance(r, farthest)
		high := 1 + r.Intn(x.C)
		low := 1 + r.Intn(high)
		// Often they lie in one segment, or in two, one beside the other.
		if r.Intn(2) == 0 {
			low = max(1, high-r.Intn(3))
		}
		less, more := Parts(x, low), Parts(x, high)
		if sum(less) > sum(more) || sum(more) > Whole(x) || len(less) > len(more) {
			t.Fatalf("%+v: %d sums up to %d, %d to %d, C to %d", x, low, sum(less), high, sum(more), Whole(x))
		}
		if x.Mode == api.Retry && (slices.Max(less) > Extra(x) || slices.Max(more) > Extra(x)) {
			t.Fatalf("%+v: a part of %d or %d is longer than %d", x, low, high, Extra(x))
		}
	}
}

func TestPartsAreNew(t *testing.T) { // P14.4
	r := rand.New(rand.NewSource(147))
	for range 2000 {
		x := chance(r, 300)
		d := 1 + r.Intn(x.C)
		want := walked(x, d)
		first, second := Parts(x, d), Parts(x, d)
		// All that the first one holds is written to, also behind its end.
		spoilt := append(first, -1, -2, -3)
		for i := range first[:cap(first)] {
			first[:cap(first)][i] = -7
		}
		for i := range spoilt {
			spoilt[i] = -8
		}
		if !slices.Equal(second, want) {
			t.Fatalf("Parts(%+v, %d) shares memory with another answer: %v", x, d, second)
		}
		holds(t, x, d)
		if Whole(x) != sum(walked(x, x.C)) {
			t.Fatalf("Whole(%+v): %d behind a changed list", x, Whole(x))
		}
	}
}

func TestWhatIsHandedInStays(t *testing.T) { // P14.4
	r := rand.New(rand.NewSource(148))
	for n := 1; n <= 16; n++ {
		for range 50 {
			s := chanceSet(t, r, n, 500)
			// Room behind the end stays, too.
			s.Tasks = append(slices.Grow(s.Tasks, 4), api.Task{Name: "behind"})[:n]
			was := task.Copy(s)
			first, _ := Load(s)
			for _, x := range s.Tasks {
				Parts(x, x.C)
				Whole(x)
				Extra(x)
				Cut(x, x.C+1)
			}
			if s.Burst != was.Burst || !slices.Equal(s.Tasks, was.Tasks) || s.Tasks[:n+1][n] != (api.Task{Name: "behind"}) {
				t.Fatalf("%+v was changed: %+v", was, s)
			}
			// Nor is it kept: another set in the same memory has its own load.
			for i := range s.Tasks {
				s.Tasks[i].Cost = (s.Tasks[i].Cost + 500) % 1001
			}
			if sum, _ := Load(s); sum != loaded(s) {
				t.Fatalf("Load(%+v): %d; want %d", s, sum, loaded(s))
			}
			if sum, _ := Load(was); sum != first {
				t.Fatalf("Load(%+v): %d; it was %d", was, sum, first)
			}
		}
	}
}

func TestAtOnce(t *testing.T) { // P1
	var all sync.WaitGroup
	for seed := range 8 {
		all.Go(func() {
			r := rand.New(rand.NewSource(int64(seed)))
			for range 500 {
				x := chance(r, 300)
				d := 1 + r.Intn(x.C)
				if !slices.Equal(Parts(x, d), walked(x, d)) || Whole(x) != sum(walked(x, x.C)) {
					t.Errorf("%+v isn't as it is alone", x)
				}
			}
		})
	}
	all.Wait()
}

// asked asks for all of a task, right or not; no answer counts.
func asked(x api.Task) {
	Whole(x)
	Extra(x)
	for _, d := range []int{math.MinInt, -1, 0, 1, 2, x.C - 1, x.C, x.C + 1, farthest, farthest + 1, 1 << 62, math.MaxInt} {
		Cut(x, d)
		Parts(x, d)
	}
	Load(api.Set{Burst: x.C, Tasks: []api.Task{x, x}})
}

func TestTasksThatAreNotRightDoNotPanic(t *testing.T) { // P1
	odd := append([]int{1, 2, 5, 1000, 1001}, far...)
	for mode := -1; mode <= 5; mode++ {
		for _, c := range odd {
			for _, n := range odd {
				for _, cost := range odd {
					asked(api.Task{Mode: mode, C: c, Seg: n, A: n, Cost: cost})
					asked(api.Task{Mode: mode, C: c, Seg: n, A: n, Cost: 1, T: cost, D: cost})
				}
			}
		}
	}
	for _, mode := range far {
		asked(api.Task{Mode: mode, T: 10, D: 10, C: 5, Seg: 2, A: 2})
	}
}

func TestEachNumberAloneThatIsNotRight(t *testing.T) { // P1
	for _, mode := range modes {
		for _, n := range far {
			for i := range 9 {
				x := made(t, mode, 5, 2, 2, 1)
				at := []*int{&x.T, &x.D, &x.C, &x.A, &x.Seg, &x.Cost, &x.M, &x.K, &x.Prio}
				*at[i] = n
				asked(x)
			}
		}
	}
}

func TestSetsThatAreNotRightDoNotPanic(t *testing.T) { // P1
	r := rand.New(rand.NewSource(149))
	for _, n := range []int{0, 1, 16, 17, 18, 100, 5000} {
		for _, burst := range append([]int{1, 1000, 1001}, far...) {
			s := api.Set{Burst: burst}
			for range n {
				x := chance(r, farthest)
				// All have one name; some numbers aren't right.
				for _, at := range []*int{&x.T, &x.D, &x.C, &x.A, &x.Seg, &x.Cost, &x.Mode, &x.Prio} {
					if r.Intn(3) == 0 {
						*at = far[r.Intn(len(far))]
					}
				}
				s.Tasks = append(s.Tasks, x)
			}
			Load(s)
		}
	}
	Load(api.Set{})
	Load(api.Set{Burst: 1, Tasks: []api.Task{}})
}
