package verdict

import (
	"math"
	"math/rand"
	"slices"
	"strconv"
	"strings"
	"testing"

	"pendulum/api"
	"pendulum/fix"
	"pendulum/task"
)

const (
	farthest   = 1 << 20 // a time of a task
	mostLength = 1000
	mostGap    = 1<<20 + 1000
)

var (
	modes = []int{api.Retry, api.Block, api.Backup}
	gaps  = []int{1, 2, 3, 5, 8, 12, 20, 30, 64, 1000, farthest, mostGap - 1, mostGap}
	// wrongs are numbers that are no gap.
	wrongs = []int{math.MinInt, math.MinInt + 1, -1 << 62, -1 << 40, -mostGap, -1000, -2, -1, 0,
		mostGap + 1, mostGap + 2, 2 * mostGap, 1 << 32, 1<<32 + 1, 1 << 40, 1<<62 - 1, 1 << 62, math.MaxInt - 1, math.MaxInt}
)

// retry, block and backup are tasks of a mode, that are named by their priority.

func retry(prio, d, c, seg, cost int) api.Task {
	return api.Task{Name: "t" + strconv.Itoa(prio), T: d, D: d, C: c, Seg: seg, Cost: cost, M: 1, K: 1, Mode: api.Retry, Prio: prio}
}

func block(prio, d, c, a, cost int) api.Task {
	return api.Task{Name: "t" + strconv.Itoa(prio), T: d, D: d, C: c, A: a, Cost: cost, M: 1, K: 1, Mode: api.Block, Prio: prio}
}

func backup(prio, d, c, a, cost int) api.Task {
	t := block(prio, d, c, a, cost)
	t.Mode = api.Backup
	return t
}

// set is a right set.
func set(t *testing.T, length int, tasks ...api.Task) api.Set {
	t.Helper()
	s := api.Set{Burst: length, Tasks: tasks}
	if why, at := task.Why(s); why != api.Fine {
		t.Fatalf("the test asks of a set that isn't right (%d at %d): %+v", why, at, s)
	}
	return s
}

// chance is a right set of n tasks, in any order of their priorities, whose D are at most most and which ask for so much that some sets are accepted, and some aren't.
func chance(t *testing.T, r *rand.Rand, n, most int) api.Set {
	t.Helper()
	var tasks []api.Task
	heavy := 1 + r.Intn(6)
	for _, prio := range r.Perm(256)[:n] {
		x := api.Task{Name: "t" + strconv.Itoa(prio), Prio: prio, Mode: modes[r.Intn(3)]}
		x.K = 1 + r.Intn(4)
		x.M = 1 + r.Intn(x.K)
		x.T = most/2 + r.Intn(most/2)
		x.D = x.T - r.Intn(x.T/2)
		x.C = 1 + r.Intn(1+x.D/(heavy*n))
		x.Cost = r.Intn(3)
		if x.Mode == api.Retry {
			x.Seg = 1 + r.Intn(x.C)
		} else {
			x.A = 1 + r.Intn(x.C)
		}
		tasks = append(tasks, x)
	}
	return set(t, 1+r.Intn(3), tasks...)
}

// orders are all orders of the numbers 0 to n-1.
func orders(n int) [][]int {
	if n == 0 {
		return [][]int{nil}
	}
	var all [][]int
	for _, o := range orders(n - 1) {
		for at := range n {
			all = append(all, slices.Insert(slices.Clone(o), at, n-1))
		}
	}
	return all
}

// small calls do with right sets of one, two and three tasks of all modes, in all orders of their priorities.
func small(t *testing.T, do func(s api.Set)) {
	t.Helper()
	one := func(mode, prio, at int) api.Task {
		switch mode {
		case api.Retry:
			return retry(prio, 20+5*at, 3+at, 2, at)
		case api.Block:
			return block(prio, 21+5*at, 2+at, 3+at, 1)
		}
		return backup(prio, 22+5*at, 2, 6-at, at%2)
	}
	for _, a := range modes {
		do(set(t, 1, one(a, 0, 0)))
		do(set(t, 2, one(a, 255, 1)))
		for _, b := range modes {
			do(set(t, 1, one(a, 1, 0), one(b, 2, 1)))
			do(set(t, 2, one(a, 2, 0), one(b, 1, 1)))
			for _, c := range modes {
				for _, p := range orders(3) {
					do(set(t, 1, one(a, p[0], 0), one(b, p[1], 1), one(c, p[2], 2)))
					do(set(t, 3, one(a, p[0], 2), one(b, p[1], 0), one(c, p[2], 1)))
				}
			}
		}
	}
}

// The model asks all tasks, whoever is late, and looks then which of the late ones has the least Prio.

func model(s api.Set, g int) api.Verdict {
	times := make([]int, len(s.Tasks))
	late := -1
	for at, x := range s.Tasks {
		r, ok := fix.Response(s, at, g)
		if ok {
			times[at] = r
		} else if late < 0 || x.Prio < s.Tasks[late].Prio {
			late = at
		}
	}
	if late < 0 {
		return api.Verdict{OK: true, Late: -1, R: times}
	}
	for at, x := range s.Tasks {
		if x.Prio >= s.Tasks[late].Prio {
			times[at] = 0
		}
	}
	return api.Verdict{Late: late, R: times}
}

func alike(a, b api.Verdict) bool {
	if len(a.R) != len(b.R) || a.Late != b.Late || a.OK != b.OK {
		return false
	}
	for at := range a.R {
		if a.R[at] != b.R[at] {
			return false
		}
	}
	return true
}

// judged is the verdict on a right set, held against the model.
func judged(t *testing.T, s api.Set, g int) api.Verdict {
	t.Helper()
	v, e := Judge(s, g)
	if want := model(s, g); e != api.OK || !alike(v, want) {
		t.Fatalf("Judge(%+v, %d): %+v, %d; want %+v", s, g, v, e, want)
	}
	return v
}

// accepted asks for a set's times.
func accepted(t *testing.T, s api.Set, g int, times ...int) {
	t.Helper()
	if v := judged(t, s, g); !alike(v, api.Verdict{OK: true, Late: -1, R: times}) {
		t.Fatalf("Judge(%+v, %d): %+v; want it accepted, with %v", s, g, v, times)
	}
}

// late asks for the place of the late task, and the times of those above it.
func late(t *testing.T, s api.Set, g, at int, times ...int) {
	t.Helper()
	if v := judged(t, s, g); !alike(v, api.Verdict{Late: at, R: times}) {
		t.Fatalf("Judge(%+v, %d): %+v; want %d late, with %v", s, g, v, at, times)
	}
}

// refused asks for ErrArg and a verdict of zeros.
func refused(t *testing.T, s api.Set, g int) {
	t.Helper()
	v, e := Judge(s, g)
	if e != api.ErrArg || v.OK || v.Late != 0 || len(v.R) != 0 {
		t.Fatalf("Judge(%+v, %d): %+v, %d; want zeros, and ErrArg", s, g, v, e)
	}
}

// tally counts verdicts, so that a test tells whether it saw enough of each kind.
type tally struct{ accepted, late, sorted int }

func (c *tally) count(v api.Verdict) {
	if v.OK {
		c.accepted++
		return
	}
	c.late++
	if slices.Max(v.R) > 0 {
		c.sorted++ // some above it have times
	}
}

func (c *tally) enough(t *testing.T, n int) {
	t.Helper()
	if c.accepted < n || c.late < n || c.sorted < n {
		t.Fatalf("not enough of each: %+v", *c)
	}
}

// three are a set of one task of each mode, of which Block is the highest and Retry the lowest.
func three(t *testing.T) api.Set {
	t.Helper()
	return set(t, 2, retry(30, 200, 20, 10, 1), block(10, 50, 5, 4, 1), backup(20, 100, 10, 7, 0))
}

// stairs are a set of n tasks, the one with the Prio p at the place order[p], with a response time of want[p]; calm ones, so that a D that is lessened makes but that task late.
func stairs(t *testing.T, order []int) (api.Set, []int) {
	t.Helper()
	tasks := make([]api.Task, len(order))
	want := make([]int, len(order))
	for p, at := range order {
		tasks[at] = block(p, 1000, 2, 3+p, 1)
		want[p] = 3*(p+1) + 2*(4+p)
	}
	return set(t, 2, tasks...), want
}

func TestJudge(t *testing.T) { // P20.1
	s := three(t)
	accepted(t, s, 1000, 66, 27, 37)
	s.Tasks[2].D = 37
	accepted(t, s, 1000, 66, 27, 37)
	s.Tasks[2].D = 36
	late(t, s, 1000, 2, 0, 27, 0)
	s.Tasks[1].D = 26
	late(t, s, 1000, 1, 0, 0, 0)
	s = three(t)
	s.Tasks[0].D = 65
	late(t, s, 1000, 0, 0, 27, 37)
	late(t, three(t), 20, 1, 0, 0, 0)
}

func TestOneTaskAlone(t *testing.T) { // P20.1
	accepted(t, set(t, 1, retry(0, 9, 3, 3, 0)), mostGap, 6)
	accepted(t, set(t, 1, retry(0, 9, 3, 3, 0)), 6, 6)
	late(t, set(t, 1, retry(0, 9, 3, 3, 0)), 4, 0, 0)
	accepted(t, set(t, 1, retry(0, 6, 3, 3, 0)), 6, 6)
	late(t, set(t, 1, retry(0, 5, 3, 3, 0)), mostGap, 0, 0)
	accepted(t, set(t, 2, backup(255, 26, 3, 5, 2)), 100, 26)
	late(t, set(t, 2, backup(255, 25, 3, 5, 2)), 100, 0, 0)
	accepted(t, set(t, 2, block(7, 19, 3, 5, 2)), 100, 19)
	late(t, set(t, 2, block(7, 18, 3, 5, 2)), 100, 0, 0)
	// The least time that there is, and the greatest.
	accepted(t, set(t, 1, retry(0, 2, 1, 1, 0)), mostGap, 2)
	accepted(t, set(t, 1, block(0, farthest, farthest-1, 1, 0)), mostGap, farthest)
}

func TestWholeAboveTheDeadline(t *testing.T) { // P20.1
	for _, x := range []api.Task{
		retry(0, 3, 3, 3, 1),
		retry(0, 10, 10, 1, 1),
		retry(0, 10, 1, 1, 1000),
		block(0, 3, 3, 1, 1),
		block(0, 1, 1, 1, 1000),
		backup(0, 3, 3, 1, 1),
		backup(0, farthest, farthest, 1, 1),
	} {
		for _, g := range gaps {
			for _, length := range []int{1, 2, mostLength} {
				late(t, set(t, length, x), g, 0, 0)
			}
		}
	}
}

func TestFewTasks(t *testing.T) { // P20.1
	var c tally
	small(t, func(s api.Set) {
		for _, g := range gaps {
			c.count(judged(t, s, g))
		}
	})
	c.enough(t, 100)
}

func TestByChance(t *testing.T) { // P20.1
	r := rand.New(rand.NewSource(20))
	var c tally
	for range 2000 {
		s := chance(t, r, 1+r.Intn(5), 40+r.Intn(400))
		c.count(judged(t, s, 1+r.Intn(100)))
		c.count(judged(t, s, 1+r.Intn(mostGap)))
	}
	for range 300 {
		s := chance(t, r, 16, 40+r.Intn(4000))
		c.count(judged(t, s, 1+r.Intn(500)))
		c.count(judged(t, s, mostGap))
	}
	c.enough(t, 300)
}

func TestGreatBursts(t *testing.T) { // P20.1
	var c tally
	for _, length := range []int{1, 2, 10, 100, 999, mostLength} {
		s := set(t, length, retry(3, 9000, 50, 5, 1), block(1, 70000, 40, 9, 2), backup(2, 80000, 30, 7, 3), retry(0, 60000, 6, 1, 0))
		for _, g := range gaps {
			c.count(judged(t, s, g))
		}
		for _, g := range []int{2000, 20000, 40000, 60000, 80000} {
			c.count(judged(t, s, g))
		}
	}
	c.enough(t, 3)
}

func TestEachTaskLate(t *testing.T) { // P20.1
	// In all orders of four tasks each one alone is late, then each two.
	for _, order := range orders(4) {
		s, want := stairs(t, order)
		byPlace := make([]int, 4)
		for p, at := range order {
			byPlace[at] = want[p]
		}
		accepted(t, s, mostGap, byPlace...)
		for p, at := range order {
			for q := p; q < 4; q++ {
				s, _ := stairs(t, order)
				s.Tasks[order[q]].D = want[q] - 1
				s.Tasks[at].D = want[p] - 1
				above := make([]int, 4)
				for higher := range p {
					above[order[higher]] = want[higher]
				}
				late(t, s, mostGap, at, above...)
				// A D that is just the time isn't too short.
				s.Tasks[order[q]].D = want[q]
				s.Tasks[at].D = want[p]
				accepted(t, s, mostGap, byPlace...)
			}
		}
	}
}

func TestTheHighestAndTheLowestLate(t *testing.T) { // P20.1
	s, _ := stairs(t, []int{2, 0, 1})
	s.Tasks[2].D = 5
	late(t, s, mostGap, 2, 0, 0, 0)
	s, _ = stairs(t, []int{2, 0, 1})
	s.Tasks[1].D = 5
	late(t, s, mostGap, 1, 16, 0, 11)
	// In the middle, at the first place and the last.
	s, _ = stairs(t, []int{2, 0, 1})
	s.Tasks[0].D = 5
	late(t, s, mostGap, 0, 0, 0, 11)
	s, _ = stairs(t, []int{1, 2, 0})
	s.Tasks[1].D = 5
	late(t, s, mostGap, 1, 0, 0, 0)
	s, _ = stairs(t, []int{1, 2, 0})
	s.Tasks[2].D = 15
	late(t, s, mostGap, 2, 0, 11, 0)
}

func TestBelowALateOneNothingIsTold(t *testing.T) { // P20.1
	s := set(t, 1, block(30, 900, 2, 3, 0), block(20, 9, 9, 3, 0), block(10, 900, 2, 3, 0))
	s.Tasks[1].T = 900
	if r, ok := fix.Response(s, 0, mostGap); !ok || r != 16 {
		t.Fatalf("the lowest one has no time: %d", r)
	}
	late(t, s, mostGap, 1, 0, 0, 5)
}

func TestManyTasks(t *testing.T) { // P20.1
	r := rand.New(rand.NewSource(201))
	for range 60 {
		order := r.Perm(16)
		s, want := stairs(t, order)
		byPlace := make([]int, 16)
		for p, at := range order {
			byPlace[at] = want[p]
		}
		accepted(t, s, mostGap, byPlace...)
		p := r.Intn(16)
		s.Tasks[order[p]].D = want[p] - 1
		for q := p; q < 16; q++ {
			byPlace[order[q]] = 0
		}
		late(t, s, mostGap, order[p], byPlace...)
	}
}

func TestTheLengthOfR(t *testing.T) { // P20.1
	r := rand.New(rand.NewSource(202))
	for n := 1; n <= 16; n++ {
		for range 40 {
			s := chance(t, r, n, 40+r.Intn(1000))
			for _, g := range []int{1, 1 + r.Intn(100), mostGap} {
				if v, _ := Judge(s, g); len(v.R) != n {
					t.Fatalf("Judge(%+v, %d): %+v", s, g, v)
				}
			}
		}
	}
}

func TestTheMightiestSets(t *testing.T) { // P20.1, P1
	var tasks, ones []api.Task
	for prio := range 15 {
		tasks = append(tasks, retry(prio, farthest, farthest, 1, 1000))
		ones = append(ones, retry(prio, 1, 1, 1, 0))
	}
	tasks = append(tasks, backup(255, farthest, farthest, farthest, 1000))
	ones = append(ones, backup(255, farthest, 1, 1, 0))
	for _, g := range gaps {
		late(t, set(t, mostLength, tasks...), g, 0, make([]int, 16)...)
		late(t, set(t, 1, ones...), g, 0, make([]int, 16)...)
	}
	// Many steps, each of which adds but little.
	slow := set(t, 1, retry(0, 3, 1, 1, 0), retry(1, farthest, 1, 1, 0), retry(2, farthest, farthest/2, 1, 0), retry(3, farthest, farthest/6, 1, 0))
	late(t, slow, mostGap, 3, 2, 3, farthest/4*3+3, 0)
}

func TestWrongGaps(t *testing.T) { // P20.1
	for _, s := range []api.Set{three(t), set(t, 1, retry(0, 9, 3, 3, 0)), set(t, 1, retry(0, 3, 3, 3, 1))} {
		for _, g := range wrongs {
			refused(t, s, g)
		}
		judged(t, s, 1)
		judged(t, s, mostGap)
	}
	accepted(t, three(t), mostGap, 66, 27, 37)
	late(t, three(t), 1, 1, 0, 0, 0)
}

// wrongSets are sets of each kind that chapter 5 names.
func wrongSets(t *testing.T) []api.Set {
	t.Helper()
	all := []api.Set{{}, {Tasks: []api.Task{}}, {Burst: 1}, {Burst: 1, Tasks: []api.Task{}}}
	for _, length := range []int{math.MinInt, -1, 0, mostLength + 1, math.MaxInt} {
		s := three(t)
		s.Burst = length
		all = append(all, s)
	}
	var seventeen []api.Task
	for prio := range 17 {
		seventeen = append(seventeen, retry(prio, 900, 1, 1, 0))
	}
	all = append(all, api.Set{Burst: 1, Tasks: seventeen})
	for _, spoil := range []func(x *api.Task){
		func(x *api.Task) { x.Name = "" },
		func(x *api.Task) { x.Name = "A" },
		func(x *api.Task) { x.Name = strings.Repeat("a", 13) },
		func(x *api.Task) { x.C = 0 },
		func(x *api.Task) { x.C = x.D + 1 },
		func(x *api.Task) { x.D = x.T + 1 },
		func(x *api.Task) { x.T = farthest + 1 },
		func(x *api.Task) { x.T = math.MinInt },
		func(x *api.Task) { x.Cost = -1 },
		func(x *api.Task) { x.Cost = 1001 },
		func(x *api.Task) { x.Mode = 0 },
		func(x *api.Task) { x.Mode = 4 },
		func(x *api.Task) { x.A = -1 },
		func(x *api.Task) { x.Seg = -1 },
		func(x *api.Task) { x.A, x.Seg = 1, 1 },
		func(x *api.Task) { x.A, x.Seg = 0, 0 },
		func(x *api.Task) { x.M = 0 },
		func(x *api.Task) { x.M, x.K = 3, 2 },
		func(x *api.Task) { x.M, x.K = 1, 65 },
		func(x *api.Task) { x.Prio = -1 },
		func(x *api.Task) { x.Prio = 256 },
	} {
		for at := range 3 {
			s := three(t)
			spoil(&s.Tasks[at])
			all = append(all, s)
		}
	}
	for _, p := range [][2]int{{0, 1}, {0, 2}, {1, 2}} {
		s := three(t)
		s.Tasks[p[1]].Name = s.Tasks[p[0]].Name
		all = append(all, s)
		s = three(t)
		s.Tasks[p[1]].Prio = s.Tasks[p[0]].Prio
		all = append(all, s)
	}
	return all
}

func TestWrongSets(t *testing.T) { // P20.1
	kinds := map[int]int{}
	for _, s := range wrongSets(t) {
		why, _ := task.Why(s)
		if why == api.Fine {
			t.Fatalf("the test asks of a right set: %+v", s)
		}
		kinds[why]++
		for _, g := range gaps {
			refused(t, s, g)
		}
		for _, g := range wrongs {
			refused(t, s, g)
		}
	}
	for why := api.BadBurst; why <= api.BadPrio; why++ {
		if kinds[why] == 0 {
			t.Fatalf("no set is wrong by %d", why)
		}
	}
}

func TestWrongBelowALateOne(t *testing.T) { // P20.1
	// That a task is late isn't told of a set that isn't right, wherever it is wrong.
	s := set(t, 1, retry(0, 3, 3, 3, 1), retry(1, 9, 3, 3, 0))
	late(t, s, mostGap, 0, 0, 0)
	s.Tasks[1].Mode = 0
	refused(t, s, mostGap)
	s = set(t, 1, retry(1, 9, 3, 3, 0), retry(0, 3, 3, 3, 1))
	s.Tasks[0].K = 0
	refused(t, s, mostGap)
}

func TestSame(t *testing.T) { // P20.1
	for _, x := range []struct {
		a, b api.Verdict
		want bool
	}{
		{api.Verdict{}, api.Verdict{}, true},
		{api.Verdict{}, api.Verdict{R: []int{}}, true},
		{api.Verdict{OK: true, Late: -1, R: []int{6}}, api.Verdict{OK: true, Late: -1, R: []int{6}}, true},
		{api.Verdict{OK: true, Late: -1, R: []int{6}}, api.Verdict{OK: false, Late: -1, R: []int{6}}, false},
		{api.Verdict{OK: true, Late: -1, R: []int{6}}, api.Verdict{OK: true, Late: 0, R: []int{6}}, false},
		{api.Verdict{OK: true, Late: -1, R: []int{6}}, api.Verdict{OK: true, Late: -1, R: []int{7}}, false},
		{api.Verdict{OK: true, Late: -1, R: []int{6}}, api.Verdict{OK: true, Late: -1, R: []int{6, 0}}, false},
		{api.Verdict{OK: true, Late: -1, R: []int{6}}, api.Verdict{OK: true, Late: -1}, false},
		{api.Verdict{R: []int{0}}, api.Verdict{}, false},
		{api.Verdict{R: []int{0, 0}}, api.Verdict{R: []int{0}}, false},
		{api.Verdict{Late: 1, R: []int{4, 0}}, api.Verdict{Late: 1, R: []int{0, 4}}, false},
		{api.Verdict{Late: 1, R: []int{4, 5, 6}}, api.Verdict{Late: 1, R: []int{4, 5, 7}}, false},
		{api.Verdict{Late: 1, R: []int{4, 5, 6}}, api.Verdict{Late: 1, R: []int{3, 5, 6}}, false},
		{api.Verdict{Late: 1, R: []int{4, 5, 6}}, api.Verdict{Late: 1, R: []int{4, 5, 6}}, true},
		// Those that Judge never answers.
		{api.Verdict{OK: true, Late: 70}, api.Verdict{OK: true, Late: 70}, true},
		{api.Verdict{Late: math.MinInt, R: []int{math.MaxInt, -1}}, api.Verdict{Late: math.MinInt, R: []int{math.MaxInt, -1}}, true},
		{api.Verdict{Late: math.MinInt}, api.Verdict{Late: math.MaxInt}, false},
		{api.Verdict{R: []int{1 << 32}}, api.Verdict{R: []int{0}}, false},
		{api.Verdict{Late: 1 << 32}, api.Verdict{}, false},
		{api.Verdict{Late: -1}, api.Verdict{OK: true, Late: -1}, false},
	} {
		for _, p := range [][2]api.Verdict{{x.a, x.b}, {x.b, x.a}} {
			if Same(p[0], p[1]) != x.want {
				t.Errorf("Same(%+v, %+v): %v", p[0], p[1], !x.want)
			}
		}
		if !Same(x.a, x.a) || !Same(x.b, x.b) {
			t.Errorf("%+v or %+v isn't like itself", x.a, x.b)
		}
	}
}

func TestSameOfAllSmallVerdicts(t *testing.T) { // P20.1
	rows := [][]int{nil, {}, {0}, {1}, {-1}, {0, 0}, {0, 1}, {1, 0}, {0, 0, 0}}
	var all []api.Verdict
	for _, ok := range []bool{false, true} {
		for late := -2; late <= 2; late++ {
			for _, row := range rows {
				all = append(all, api.Verdict{OK: ok, Late: late, R: row})
			}
		}
	}
	for _, a := range all {
		for _, b := range all {
			if Same(a, b) != alike(a, b) {
				t.Fatalf("Same(%+v, %+v): %v", a, b, !alike(a, b))
			}
		}
	}
}

func TestSameOfWhatIsBehindTheEnd(t *testing.T) { // P20.1
	a, b := []int{1, 2, 3}, []int{1, 2, 4}
	if !Same(api.Verdict{R: a[:2]}, api.Verdict{R: b[:2]}) || Same(api.Verdict{R: a}, api.Verdict{R: a[:2]}) {
		t.Fatal("what is behind the end counts")
	}
}

func TestSameLeavesWhatIsHandedIn(t *testing.T) { // P20.3
	a, b := []int{3, 2, 1, 9}, []int{3, 2, 1, 8}
	Same(api.Verdict{R: a[:3]}, api.Verdict{R: b[:3]})
	if !slices.Equal(a, []int{3, 2, 1, 9}) || !slices.Equal(b, []int{3, 2, 1, 8}) {
		t.Fatal(a, b)
	}
}

func TestNoTimeAboveItsDeadline(t *testing.T) { // P20.2
	r := rand.New(rand.NewSource(203))
	var c tally
	hold := func(s api.Set, g int) {
		v, _ := Judge(s, g)
		c.count(v)
		for at, n := range v.R {
			x := s.Tasks[at]
			told := v.OK || x.Prio < s.Tasks[v.Late].Prio
			if told && (n < 1 || n > x.D) || !told && n != 0 {
				t.Fatalf("Judge(%+v, %d): %+v", s, g, v)
			}
		}
	}
	small(t, func(s api.Set) {
		for _, g := range gaps {
			hold(s, g)
		}
	})
	for range 2000 {
		hold(chance(t, r, 1+r.Intn(16), 40+r.Intn(4000)), 1+r.Intn(2000))
	}
	c.enough(t, 200)
}

func TestGreaterGaps(t *testing.T) { // P20.2
	r := rand.New(rand.NewSource(204))
	became := 0
	hold := func(s api.Set, some []int) {
		last, _ := Judge(s, some[0])
		for _, g := range some[1:] {
			v, _ := Judge(s, g)
			if last.OK && !v.OK {
				t.Fatalf("%+v is accepted with a lesser gap than %d", s, g)
			}
			if !last.OK && v.OK {
				became++
			}
			for at := range v.R {
				if last.OK && v.R[at] > last.R[at] {
					t.Fatalf("%+v: with %d %v, with a lesser gap %v", s, g, v, last)
				}
			}
			last = v
		}
	}
	small(t, func(s api.Set) {
		var all []int
		for g := 1; g <= 70; g++ {
			all = append(all, g)
		}
		hold(s, append(all, 1000, mostGap))
	})
	for range 1000 {
		s := chance(t, r, 1+r.Intn(6), 40+r.Intn(1000))
		some := []int{1, 1 + r.Intn(20), 1 + r.Intn(200), 1 + r.Intn(2000), 1 + r.Intn(mostGap), mostGap}
		slices.Sort(some)
		hold(s, some)
	}
	if became < 200 {
		t.Fatalf("but %d sets were accepted of a greater gap alone", became)
	}
}

func TestWithoutTheLast(t *testing.T) { // P20.2
	r := rand.New(rand.NewSource(205))
	held := 0
	hold := func(s api.Set, g int) {
		v, _ := Judge(s, g)
		if !v.OK || len(s.Tasks) == 1 {
			return
		}
		last := task.Order(s)[len(s.Tasks)-1]
		less := task.Copy(s)
		less.Tasks = slices.Delete(less.Tasks, last, last+1)
		times := slices.Delete(slices.Clone(v.R), last, last+1)
		w := judged(t, less, g)
		if !w.OK {
			t.Fatalf("%+v is accepted with %d, but not without the last: %+v", s, g, w)
		}
		for at := range times {
			if w.R[at] > times[at] {
				t.Fatalf("%+v, %d: %v, without the last %v", s, g, v, w)
			}
		}
		held++
	}
	small(t, func(s api.Set) {
		for _, g := range gaps {
			hold(s, g)
		}
	})
	for range 2000 {
		hold(chance(t, r, 2+r.Intn(15), 40+r.Intn(4000)), 1+r.Intn(2000))
	}
	if held < 500 {
		t.Fatalf("but %d sets were accepted", held)
	}
}

func TestTheOrderOfTasksChangesThePlaces(t *testing.T) { // P20.1
	r := rand.New(rand.NewSource(206))
	var c tally
	for range 1500 {
		s := chance(t, r, 1+r.Intn(16), 40+r.Intn(2000))
		g := 1 + r.Intn(1000)
		v, _ := Judge(s, g)
		c.count(v)
		places := r.Perm(len(s.Tasks))
		moved := api.Set{Burst: s.Burst, Tasks: make([]api.Task, len(s.Tasks))}
		want := api.Verdict{OK: v.OK, Late: v.Late, R: make([]int, len(s.Tasks))}
		for at, to := range places {
			moved.Tasks[to] = s.Tasks[at]
			want.R[to] = v.R[at]
		}
		if !v.OK {
			want.Late = places[v.Late]
		}
		if w, e := Judge(moved, g); e != api.OK || !alike(w, want) {
			t.Fatalf("Judge(%+v, %d): %+v; in the order %v %+v", s, g, v, places, w)
		}
	}
	c.enough(t, 100)
}

func TestFirmNumbersDontCount(t *testing.T) { // P20.1
	r := rand.New(rand.NewSource(207))
	for range 500 {
		s := chance(t, r, 1+r.Intn(8), 40+r.Intn(1000))
		g := 1 + r.Intn(500)
		v, _ := Judge(s, g)
		for at := range s.Tasks {
			x := &s.Tasks[at]
			x.K = 1 + r.Intn(64)
			x.M = 1 + r.Intn(x.K)
			x.Name = "other" + strconv.Itoa(at)
		}
		if w := judged(t, s, g); !alike(v, w) {
			t.Fatalf("%+v, %d: %+v; with other (m,k) %+v", s, g, v, w)
		}
	}
}

func TestWhatIsHandedInStays(t *testing.T) { // P20.3
	r := rand.New(rand.NewSource(208))
	for range 500 {
		s := chance(t, r, 1+r.Intn(15), 40+r.Intn(1000))
		// There is room behind the end of the tasks, with something in it.
		n := len(s.Tasks)
		room := append(slices.Clone(s.Tasks), api.Task{Name: "behind", T: -7}, api.Task{Name: "last"})
		s.Tasks = room[:n]
		before := slices.Clone(room)
		for _, g := range []int{0, 1, 1 + r.Intn(500), mostGap, mostGap + 1} {
			Judge(s, g)
			if !slices.Equal(room, before) || len(s.Tasks) != n {
				t.Fatalf("%+v was %+v", room, before)
			}
		}
	}
	for _, s := range wrongSets(t) {
		before := slices.Clone(s.Tasks)
		Judge(s, 9)
		if !slices.Equal(s.Tasks, before) {
			t.Fatalf("%+v was %+v", s.Tasks, before)
		}
	}
}

// spoil writes over all of a row, up to the end of its room.
func spoil(row []int) {
	row = row[:cap(row)]
	for at := range row {
		row[at] = -77
	}
}

func TestWhatIsAnsweredIsNew(t *testing.T) { // P20.3
	r := rand.New(rand.NewSource(209))
	for range 300 {
		s := chance(t, r, 1+r.Intn(16), 40+r.Intn(1000))
		g := 1 + r.Intn(500)
		a, _ := Judge(s, g)
		want := api.Verdict{OK: a.OK, Late: a.Late, R: slices.Clone(a.R)}
		b, _ := Judge(s, g)
		spoil(a.R)
		if !alike(b, want) {
			t.Fatalf("%+v, %d: %+v became %+v", s, g, want, b)
		}
		if c := judged(t, s, g); !alike(c, want) {
			t.Fatalf("%+v, %d: %+v, then %+v", s, g, want, c)
		}
	}
}

func TestWhatIsHandedInIsNotKept(t *testing.T) { // P20.3
	s := three(t)
	v, _ := Judge(s, 1000)
	for at := range s.Tasks {
		s.Tasks[at] = api.Task{}
	}
	if !alike(v, api.Verdict{OK: true, Late: -1, R: []int{66, 27, 37}}) {
		t.Fatalf("%+v", v)
	}
	refused(t, s, 1000)
	accepted(t, three(t), 1000, 66, 27, 37)
}
