package fix

import (
	"math"
	"math/big"
	"math/rand"
	"slices"
	"sort"
	"strconv"
	"testing"

	"pendulum/api"
	"pendulum/burst"
	"pendulum/task"
)

const (
	farthest   = 1 << 20 // a time of a task
	mostCost   = 1000
	mostLength = 1000
	mostGap    = 1<<20 + 1000
)

var (
	modes = []int{api.Retry, api.Block, api.Backup}
	// lengths and gaps are some that may be, with their first and last ones.
	lengths = []int{1, 2, 3, 7, 64, 999, mostLength}
	gaps    = []int{1, 2, 3, 5, 10, 28, 63, 64, 65, 999, 1000, 1001, 1 << 16, farthest - 1, farthest, farthest + 1, mostGap - 1, mostGap}
	// times are some of a recurrence, with the first and last ones.
	times = []int{0, 1, 2, 3, 5, 10, 28, 99, 100, 101, 999, 1000, 1001, 1 << 16, farthest - 1, farthest}
	// wrongs are numbers that are neither a place nor a gap nor a time of a recurrence.
	wrongs = []int{math.MinInt, math.MinInt + 1, -1 << 62, -1 << 40, -farthest, -1000, -2, -1,
		mostGap + 1, 2 * mostGap, 1<<32 + 1, 1 << 40, 1<<62 - 1, 1 << 62, math.MaxInt - 1, math.MaxInt}
)

// retry, block and backup are tasks of a mode, that are named by their priority.

func retry(prio, d, c, seg, cost int) api.Task {
	return api.Task{Name: "t" + strconv.Itoa(prio), T: d, D: d, C: c, Seg: seg, Cost: cost, M: 1, K: 1, Mode: api.Retry, Prio: prio}
}

func block(prio, d, c, a, cost int) api.Task {
	return api.Task{Name: "t" + strconv.Itoa(prio), T: d, D: d, C: c, A: a, Cost: cost, M: 1, K: 1, Mode: api.Block, Prio: prio}
}

func backup(prio, d, c, a, cost int) api.Task {
	t := block(prio, d, c, a, cost)
	t.Mode = api.Backup
	return t
}

// set is a right set.
func set(t *testing.T, length int, tasks ...api.Task) api.Set {
	t.Helper()
	s := api.Set{Burst: length, Tasks: tasks}
	if why, at := task.Why(s); why != api.Fine {
		t.Fatalf("the test asks of a set that isn't right (%d at %d): %+v", why, at, s)
	}
	return s
}

// chanceTask is a right task of any mode, whose times are at most most.
func chanceTask(r *rand.Rand, prio, most int) api.Task {
	x := api.Task{Name: "t" + strconv.Itoa(prio), Prio: prio, Mode: modes[r.Intn(3)]}
	x.K = 1 + r.Intn(4)
	x.M = 1 + r.Intn(x.K)
	x.T = 1 + r.Intn(most)
	x.D = 1 + r.Intn(x.T)
	x.C = 1 + r.Intn(x.D)
	if r.Intn(2) == 0 {
		x.C = 1 + r.Intn(min(4, x.D))
	}
	x.Cost = r.Intn(3)
	if r.Intn(4) == 0 {
		x.Cost = r.Intn(mostCost + 1)
	}
	if x.Mode == api.Retry {
		x.Seg = 1 + r.Intn(x.C)
	} else {
		x.A = 1 + r.Intn(min(x.D, 1+r.Intn(x.D)))
	}
	return x
}

// chance is a right set of so many tasks, in any order of their priorities.
func chance(t *testing.T, r *rand.Rand, n, most int) api.Set {
	t.Helper()
	var tasks []api.Task
	for _, prio := range r.Perm(256)[:n] {
		tasks = append(tasks, chanceTask(r, prio, 1+r.Intn(most)))
	}
	length := 1 + r.Intn(3)
	if r.Intn(5) == 0 {
		length = 1 + r.Intn(mostLength)
	}
	return set(t, length, tasks...)
}

// light is a right set whose tasks ask for little, so that some are in time.
func light(t *testing.T, r *rand.Rand, n, most int) api.Set {
	t.Helper()
	s := chance(t, r, n, most)
	for at := range s.Tasks {
		x := &s.Tasks[at]
		x.T = most/2 + r.Intn(most/2)
		x.D = x.T - r.Intn(x.T/2)
		x.C = 1 + r.Intn(1+x.D/(6*n))
		x.Cost = r.Intn(3)
		if x.Mode == api.Retry {
			x.Seg = 1 + r.Intn(x.C)
		} else {
			x.A = 1 + r.Intn(x.C)
		}
	}
	s.Burst = 1 + r.Intn(3)
	return set(t, s.Burst, s.Tasks...)
}

// The model: the tasks stand by priority, so that those above one stand ahead of it; and numbers have no bounds.

// standing are the tasks by priority, and where task i stands.
func standing(s api.Set, i int) ([]api.Task, int) {
	l := slices.Clone(s.Tasks)
	sort.Slice(l, func(a, b int) bool { return l[a].Prio < l[b].Prio })
	return l, slices.IndexFunc(l, func(x api.Task) bool { return x.Name == s.Tasks[i].Name })
}

func extraOf(x api.Task) int {
	if x.Mode == api.Retry {
		return x.Seg + x.Cost
	}
	return x.A + x.Cost
}

func wholeOf(x api.Task) int {
	n := x.C + x.Cost
	if x.Mode == api.Retry {
		for left := x.C - x.Seg; left > 0; left -= x.Seg {
			n += x.Cost
		}
	}
	return n
}

func greatest(l []int) int {
	if len(l) == 0 {
		return 0
	}
	return slices.Max(l)
}

func dearOf(s api.Set, i int) int {
	l, place := standing(s, i)
	var extras []int
	for at, x := range l {
		if at <= place || x.Mode == api.Backup {
			extras = append(extras, extraOf(x))
		}
	}
	return greatest(extras)
}

func aheadOf(s api.Set, i int) int {
	l, place := standing(s, i)
	var extras []int
	for _, x := range l[place:] {
		if x.Mode == api.Backup {
			extras = append(extras, extraOf(x))
		}
	}
	return greatest(extras)
}

// up is a by b, rounded up.
func up(a, b int) *big.Int {
	n, rest := new(big.Int).DivMod(big.NewInt(int64(a)), big.NewInt(int64(b)), new(big.Int))
	if rest.Sign() > 0 {
		n.Add(n, big.NewInt(1))
	}
	return n
}

// made is what the recurrence makes of a time.
func made(s api.Set, i, g, w int) *big.Int {
	l, place := standing(s, i)
	sum := big.NewInt(int64(wholeOf(l[place]) + aheadOf(s, i)))
	for _, x := range l[:place] {
		sum.Add(sum, new(big.Int).Mul(up(w, x.T), big.NewInt(int64(wholeOf(x)))))
	}
	bursts := new(big.Int)
	if w > 0 {
		bursts = up(w+s.Burst-1, g)
	}
	bursts.Mul(bursts, big.NewInt(int64(s.Burst)))
	return sum.Add(sum, bursts.Mul(bursts, big.NewInt(int64(dearOf(s, i)))))
}

// counted is the same, with releases and bursts counted tick by tick.
func counted(s api.Set, i, g, w int) int {
	l, place := standing(s, i)
	sum := wholeOf(l[place]) + aheadOf(s, i)
	for at := range w {
		for _, x := range l[:place] {
			if at%x.T == 0 {
				sum += wholeOf(x)
			}
		}
	}
	// The first burst that has a fault in the ticks begins as long ahead of them as it may.
	for at := 1 - s.Burst; w > 0 && at < w; at += g {
		sum += s.Burst * dearOf(s, i)
	}
	return sum
}

// tried is the response time, with each time from 0 to D tried.
func tried(s api.Set, i, g int) (int, bool) {
	for w := 0; w <= s.Tasks[i].D; w++ {
		if counted(s, i, g, w) == w {
			return w, true
		}
	}
	return 0, false
}

func dear(t *testing.T, s api.Set, i, want int) {
	t.Helper()
	if n := Dear(s, i); n != want {
		t.Fatalf("Dear(%+v, %d): %d; want %d", s, i, n, want)
	}
}

func ahead(t *testing.T, s api.Set, i, want int) {
	t.Helper()
	if n := Ahead(s, i); n != want {
		t.Fatalf("Ahead(%+v, %d): %d; want %d", s, i, n, want)
	}
}

func next(t *testing.T, s api.Set, i, g, w, want int) {
	t.Helper()
	if n, ok := Next(s, i, g, w); n != want || !ok {
		t.Fatalf("Next(%+v, %d, %d, %d): %d, %v; want %d, true", s, i, g, w, n, ok, want)
	}
}

func response(t *testing.T, s api.Set, i, g, want int) {
	t.Helper()
	if n, ok := Response(s, i, g); n != want || !ok {
		t.Fatalf("Response(%+v, %d, %d): %d, %v; want %d, true", s, i, g, n, ok, want)
	}
}

func late(t *testing.T, s api.Set, i, g int) {
	t.Helper()
	if n, ok := Response(s, i, g); n != 0 || ok {
		t.Fatalf("Response(%+v, %d, %d): %d, %v; want 0, false", s, i, g, n, ok)
	}
}

// holds holds Dear, Ahead and Next of all tasks against the model.
func holds(t *testing.T, s api.Set, gaps, times []int) {
	t.Helper()
	for i := range s.Tasks {
		dear(t, s, i, dearOf(s, i))
		ahead(t, s, i, aheadOf(s, i))
		for _, g := range gaps {
			for _, w := range times {
				want := made(s, i, g, w)
				if !want.IsInt64() {
					t.Fatalf("the model is over: %+v, %d, %d, %d", s, i, g, w)
				}
				next(t, s, i, g, w, int(want.Int64()))
			}
		}
	}
}

// small calls do with right sets of one, two and three tasks of all modes, in all orders of their priorities.
func small(t *testing.T, do func(s api.Set)) {
	t.Helper()
	one := func(mode, prio, at int) api.Task {
		switch mode {
		case api.Retry:
			return retry(prio, 20+5*at, 3+at, 2, at)
		case api.Block:
			return block(prio, 21+5*at, 2+at, 3+at, 1)
		}
		return backup(prio, 22+5*at, 2, 6-at, at%2)
	}
	for _, a := range modes {
		do(set(t, 1, one(a, 0, 0)))
		do(set(t, 2, one(a, 255, 1)))
		for _, b := range modes {
			do(set(t, 1, one(a, 1, 0), one(b, 2, 1)))
			do(set(t, 2, one(a, 2, 0), one(b, 1, 1)))
			for _, c := range modes {
				for _, p := range [][]int{{1, 2, 3}, {1, 3, 2}, {2, 1, 3}, {2, 3, 1}, {3, 1, 2}, {3, 2, 1}} {
					do(set(t, 1, one(a, p[0], 0), one(b, p[1], 1), one(c, p[2], 2)))
					do(set(t, 3, one(a, p[0], 2), one(b, p[1], 0), one(c, p[2], 1)))
				}
			}
		}
	}
}

func TestTheModelsAreAlike(t *testing.T) {
	r := rand.New(rand.NewSource(19))
	for range 200 {
		s := chance(t, r, 1+r.Intn(5), 40)
		i, g := r.Intn(len(s.Tasks)), 1+r.Intn(60)
		for w := range 120 {
			if n := counted(s, i, g, w); made(s, i, g, w).Cmp(big.NewInt(int64(n))) != 0 {
				t.Fatalf("%+v, %d, %d, %d: %d, %v", s, i, g, w, n, made(s, i, g, w))
			}
		}
	}
}

func TestAgainstTheModelOfFewTasks(t *testing.T) { // P19.1
	small(t, func(s api.Set) {
		holds(t, s, []int{1, 2, 3, 7, 20, mostGap}, []int{0, 1, 2, 19, 20, 21, 22, 25, 26, 40, 41, 99, farthest})
	})
}

func TestAgainstTheModelByChance(t *testing.T) { // P19.1
	r := rand.New(rand.NewSource(191))
	for range 3000 {
		s := chance(t, r, 1+r.Intn(16), 1+r.Intn(300))
		holds(t, s, []int{1 + r.Intn(10), 1 + r.Intn(mostGap)}, []int{0, 1 + r.Intn(20), r.Intn(1000), r.Intn(farthest + 1)})
	}
	for range 300 {
		s := chance(t, r, 1+r.Intn(16), farthest)
		holds(t, s, []int{1 + r.Intn(10), 1 + r.Intn(mostGap)}, []int{0, r.Intn(farthest + 1), farthest})
	}
}

func TestAgainstTheModelAtTheEdges(t *testing.T) { // P19.1
	r := rand.New(rand.NewSource(192))
	for _, length := range lengths {
		for _, n := range []int{1, 2, 15, 16} {
			s := chance(t, r, n, 1000)
			s.Burst = length
			holds(t, s, gaps, times)
		}
	}
}

// three are a set of one task of each mode, of which Block is the highest and Retry the lowest.
func three(t *testing.T) api.Set {
	t.Helper()
	return set(t, 2, retry(30, 200, 20, 10, 1), block(10, 50, 5, 4, 1), backup(20, 100, 10, 7, 0))
}

func TestDear(t *testing.T) { // P19.1
	s := three(t)
	dear(t, s, 0, 11)
	dear(t, s, 1, 7) // Retry and its 11 are below it; Backup is too, but counts
	dear(t, s, 2, 7)
	for _, x := range []struct {
		tasks []api.Task
		want  []int
	}{
		// One task alone waits for its own parts.
		{[]api.Task{retry(0, 9, 3, 3, 0)}, []int{3}},
		{[]api.Task{retry(255, 9, 3, 2, 5)}, []int{7}},
		{[]api.Task{block(1, 9, 3, 9, 1000)}, []int{1009}},
		{[]api.Task{backup(1, 9, 3, 1, 0)}, []int{1}},
		// Of Retry and of Block below a task nothing counts, of those above it all.
		{[]api.Task{retry(1, 9, 3, 3, 0), retry(2, 9, 9, 9, 0)}, []int{3, 9}},
		{[]api.Task{retry(2, 9, 3, 3, 0), retry(1, 9, 9, 9, 0)}, []int{9, 9}},
		{[]api.Task{block(1, 9, 3, 3, 0), block(2, 9, 3, 4, 0)}, []int{3, 4}},
		{[]api.Task{block(2, 9, 3, 3, 0), block(1, 9, 3, 4, 0)}, []int{4, 4}},
		// Of Backup all counts, above and below.
		{[]api.Task{retry(1, 9, 3, 3, 0), backup(2, 9, 9, 9, 0)}, []int{9, 9}},
		{[]api.Task{retry(2, 9, 3, 3, 0), backup(1, 9, 9, 9, 0)}, []int{9, 9}},
		{[]api.Task{retry(2, 9, 3, 3, 0), backup(1, 9, 9, 2, 0)}, []int{3, 2}},
		// The cost counts, C doesn't.
		{[]api.Task{block(1, 9, 9, 1, 0), block(2, 9, 1, 1, 1)}, []int{1, 2}},
		{[]api.Task{backup(3, 90, 80, 1, 3), retry(1, 90, 80, 1, 2), block(2, 90, 80, 2, 0)}, []int{4, 4, 4}},
	} {
		s := set(t, 1, x.tasks...)
		for i, want := range x.want {
			dear(t, s, i, want)
		}
	}
}

func TestAhead(t *testing.T) { // P19.1
	s := three(t)
	ahead(t, s, 0, 0) // Backup is above it
	ahead(t, s, 1, 7)
	ahead(t, s, 2, 7) // its own
	for _, x := range []struct {
		tasks []api.Task
		want  []int
	}{
		{[]api.Task{retry(0, 9, 3, 3, 4)}, []int{0}},
		{[]api.Task{block(0, 9, 3, 3, 4)}, []int{0}},
		{[]api.Task{backup(0, 9, 3, 3, 4)}, []int{7}},
		// Without a task of Backup there is nothing.
		{[]api.Task{retry(1, 9, 3, 3, 0), block(2, 9, 9, 9, 0), retry(3, 9, 9, 9, 1)}, []int{0, 0, 0}},
		// The greatest of several, however they stand.
		{[]api.Task{backup(3, 9, 3, 5, 0), backup(2, 9, 3, 8, 0), backup(1, 9, 3, 2, 0)}, []int{5, 8, 8}},
		{[]api.Task{backup(1, 9, 3, 5, 0), backup(2, 9, 3, 2, 0), backup(3, 9, 3, 8, 0)}, []int{8, 8, 8}},
		{[]api.Task{backup(1, 9, 3, 8, 0), backup(2, 9, 3, 5, 0), backup(3, 9, 3, 2, 1)}, []int{8, 5, 3}},
		{[]api.Task{backup(1, 9, 3, 8, 0), retry(2, 9, 9, 9, 0), backup(3, 9, 3, 2, 1), block(4, 9, 3, 9, 9)}, []int{8, 3, 3, 0}},
	} {
		s := set(t, 1, x.tasks...)
		for i, want := range x.want {
			ahead(t, s, i, want)
		}
	}
}

func TestNext(t *testing.T) { // P19.1
	s := three(t)
	next(t, s, 1, 10, 0, 6+7) // no burst has a fault in no tick
	next(t, s, 1, 10, 1, 6+7+14)
	next(t, s, 1, 10, 9, 6+7+14) // 9 ticks, and one more, by 10
	next(t, s, 1, 10, 10, 6+7+2*14)
	next(t, s, 1, 10, 20, 6+7+3*14)
	next(t, s, 2, 1000, 0, 10+7)
	next(t, s, 2, 1000, 50, 10+7+6+14) // T of the one above divides 50
	next(t, s, 2, 1000, 51, 10+7+2*6+14)
	next(t, s, 2, 1000, 100, 10+7+2*6+14)
	next(t, s, 2, 1000, 101, 10+7+3*6+14)
	next(t, s, 0, 1000, 0, 22)
	next(t, s, 0, 1000, 1, 22+6+10+22)
	next(t, s, 0, 1000, 50, 22+6+10+22)
	next(t, s, 0, 1000, 51, 22+2*6+10+22)
	next(t, s, 0, 1000, 100, 22+2*6+10+22)
	next(t, s, 0, 1000, 101, 22+3*6+2*10+22)
	next(t, s, 0, 1000, 999, 22+20*6+10*10+22)
	next(t, s, 0, 1000, 1000, 22+20*6+10*10+2*22)
	next(t, s, 0, mostGap, farthest, 22+20972*6+10486*10+22)
	next(t, s, 0, 1, farthest, 22+20972*6+10486*10+(farthest+1)*22)
}

// calm is a set without an end of room: each task's T is MaxTime, so that the ones above count once.
func calm(t *testing.T, length int, i api.Task, others ...api.Task) api.Set {
	t.Helper()
	tasks := append([]api.Task{i}, others...)
	for at := range tasks {
		tasks[at].T, tasks[at].D = farthest, farthest
	}
	return set(t, length, tasks...)
}

func TestWhatIsBelow(t *testing.T) { // P19.1, P19.2
	// Of Retry and Block below a task nothing changes of it; of Backup its alternate may be called ahead, and be struck.
	alone := calm(t, 2, retry(5, 9, 4, 2, 1))
	response(t, alone, 0, mostGap, 6+2*3)
	for _, below := range []api.Task{retry(6, 900, 500, 400, 1000), retry(255, 900, 500, 1, 0), block(6, 900, 500, 900, 1000), block(255, 900, 1, 1, 0)} {
		s := calm(t, 2, retry(5, 9, 4, 2, 1), below)
		dear(t, s, 0, 3)
		ahead(t, s, 0, 0)
		for _, g := range gaps {
			for _, w := range times {
				n, ok := Next(s, 0, g, w)
				if want, _ := Next(alone, 0, g, w); n != want || !ok {
					t.Fatalf("%+v: Next(0, %d, %d) %d, %v; want %d", s, g, w, n, ok, want)
				}
			}
		}
		response(t, s, 0, mostGap, 6+2*3)
	}
	s := calm(t, 2, retry(5, 9, 4, 2, 1), backup(6, 900, 500, 300, 20))
	dear(t, s, 0, 320)
	ahead(t, s, 0, 320)
	response(t, s, 0, mostGap, 6+320+2*320)
	// A lesser one is called ahead, but it is the task's own part that is dearest.
	s = calm(t, 2, retry(5, 9, 4, 2, 1), backup(6, 900, 500, 1, 0))
	dear(t, s, 0, 3)
	ahead(t, s, 0, 1)
	response(t, s, 0, mostGap, 6+1+2*3)
	// Of several below but the dearest is called ahead.
	s = calm(t, 2, retry(5, 9, 4, 2, 1), backup(6, 900, 500, 40, 0), backup(7, 900, 500, 50, 0), backup(8, 900, 500, 30, 9))
	ahead(t, s, 0, 50)
	response(t, s, 0, mostGap, 6+50+2*50)
}

func TestWhatIsAbove(t *testing.T) { // P19.1, P19.2
	// What is above counts whole, and its failing parts may be the dearest; none is called ahead.
	s := calm(t, 2, retry(5, 9, 4, 2, 1), backup(4, 900, 50, 30, 2))
	dear(t, s, 0, 32)
	ahead(t, s, 0, 0)
	response(t, s, 0, mostGap, 6+52+2*32)
	s = calm(t, 2, retry(5, 9, 4, 2, 1), block(4, 900, 50, 30, 2))
	dear(t, s, 0, 32)
	response(t, s, 0, mostGap, 6+52+2*32)
	s = calm(t, 2, retry(5, 9, 4, 2, 1), retry(0, 900, 50, 20, 2))
	dear(t, s, 0, 22)
	response(t, s, 0, mostGap, 6+56+2*22)
	// One above and one below, both of Backup: that below alone is called ahead.
	s = calm(t, 1, block(5, 9, 4, 2, 1), backup(4, 900, 50, 30, 2), backup(6, 900, 60, 20, 0))
	dear(t, s, 0, 32)
	ahead(t, s, 0, 20)
	response(t, s, 0, mostGap, 5+20+52+32)
	dear(t, s, 1, 32)
	ahead(t, s, 1, 32)
	response(t, s, 1, mostGap, 52+32+32)
	dear(t, s, 2, 32)
	ahead(t, s, 2, 20)
	response(t, s, 2, mostGap, 60+20+52+5+32)
}

func TestOneTaskAlone(t *testing.T) { // P19.1, P19.2
	example := calm(t, 1, retry(0, 9, 3, 3, 0))
	response(t, example, 0, mostGap, 6)
	response(t, example, 0, 7, 6)
	for _, x := range []struct {
		task               api.Task
		length, g, n, want int
	}{
		// What is made of no time, and the response time.
		{retry(0, 9, 3, 3, 0), 1, 6, 3, 6},
		{retry(0, 9, 3, 3, 0), 1, 4, 3, 12}, // in 6 ticks there are two bursts, in 9 and in 12 three
		{retry(0, 9, 3, 1, 0), 1, 2, 3, 6},
		{retry(0, 9, 3, 1, 2), 1, 100, 9, 12},
		{retry(0, 9, 3, 1, 2), 3, 100, 9, 18},
		{block(0, 9, 3, 5, 2), 1, 100, 5, 12},
		{block(0, 9, 3, 5, 2), 2, 100, 5, 19},
		{backup(0, 9, 3, 5, 2), 1, 100, 12, 19},
		{backup(0, 9, 3, 5, 2), 2, 100, 12, 26},
		{retry(0, 9, 1, 1, 0), 1, mostGap, 1, 2},
		{block(0, 9, 1, 1, 0), 1, mostGap, 1, 2},
		{backup(0, 9, 1, 1, 0), 1, mostGap, 2, 3},
		{retry(0, 9, 1, 1, 1000), 1000, mostGap, 1001, 1001 + 1000*1001},
		{block(0, 9, 1, 1, 1000), 1000, mostGap, 1001, 1001 + 1000*1001},
		{backup(0, 9, 1, 1, 1000), 1000, mostGap, 2002, 2002 + 1000*1001},
	} {
		s := calm(t, x.length, x.task)
		next(t, s, 0, x.g, 0, x.n)
		response(t, s, 0, x.g, x.want)
		next(t, s, 0, x.g, x.want, x.want)
	}
	// Each burst takes as long as the next one is away, or longer: there is no such time.
	late(t, example, 0, 1)
	late(t, example, 0, 2)
	late(t, example, 0, 3)
	late(t, calm(t, 2, retry(0, 9, 3, 3, 0)), 0, 6)
	response(t, calm(t, 2, retry(0, 9, 3, 3, 0)), 0, 7, 27)
}

func TestResponse(t *testing.T) { // P19.2
	s := three(t)
	for i, want := range []int{66, 27, 37} {
		response(t, s, i, 1000, want)
	}
	late(t, s, 1, 10)
	late(t, s, 1, 14)
	late(t, s, 1, 20) // in 27 ticks there are two bursts, in 41 three: 55, and D is 50
	response(t, s, 1, 21, 41)
	response(t, s, 1, 27, 41)
	response(t, s, 1, 28, 27)
	response(t, s, 0, 67, 66)
	response(t, s, 0, 66, 66+22) // in 66 ticks, and one more, there are two bursts
}

// ask holds the responses of all tasks against all times tried.
func ask(t *testing.T, s api.Set, g int) (there, none int) {
	t.Helper()
	for i := range s.Tasks {
		if want, ok := tried(s, i, g); ok {
			response(t, s, i, g, want)
			there++
		} else {
			late(t, s, i, g)
			none++
		}
	}
	return there, none
}

func TestResponseOfFewTasks(t *testing.T) { // P19.2
	there, none := 0, 0
	small(t, func(s api.Set) {
		for _, g := range []int{1, 2, 3, 5, 8, 12, 20, 30, mostGap} {
			a, b := ask(t, s, g)
			there, none = there+a, none+b
		}
	})
	if there < 500 || none < 500 {
		t.Fatalf("%d times, %d none: not enough of each", there, none)
	}
}

func TestResponseByChance(t *testing.T) { // P19.2
	r := rand.New(rand.NewSource(193))
	there, none := 0, 0
	count := func(s api.Set, g int) {
		a, b := ask(t, s, g)
		there, none = there+a, none+b
	}
	for range 400 {
		count(chance(t, r, 1+r.Intn(4), 60), 1+r.Intn(60))
		count(light(t, r, 1+r.Intn(4), 120), 1+r.Intn(150))
		count(light(t, r, 1+r.Intn(3), 150), mostGap-r.Intn(2))
	}
	for range 10 {
		count(light(t, r, 16, 200), 1+r.Intn(300))
	}
	if there < 700 || none < 700 {
		t.Fatalf("%d times, %d none: not enough of each", there, none)
	}
}

func TestTheDeadline(t *testing.T) { // P19.2
	for _, x := range []struct {
		tasks  []api.Task
		length int
		want   int // the response time of the first
	}{
		{[]api.Task{retry(5, 900, 3, 3, 0)}, 1, 6},
		{[]api.Task{block(5, 900, 3, 2, 1)}, 2, 10},
		{[]api.Task{backup(5, 900, 3, 2, 1)}, 2, 13},
		{[]api.Task{retry(5, 900, 3, 3, 0), block(4, 900, 7, 5, 3)}, 1, 3 + 10 + 8},
		{[]api.Task{retry(5, 900, 3, 3, 0), backup(6, 900, 7, 5, 3)}, 1, 3 + 8 + 8},
	} {
		for _, d := range []int{x.want - 2, x.want - 1, x.want, x.want + 1, 900} {
			s := set(t, x.length, slices.Clone(x.tasks)...)
			s.Tasks[0].D = d
			set(t, x.length, s.Tasks...)
			if d < x.want {
				late(t, s, 0, 1000)
			} else {
				response(t, s, 0, 1000, x.want)
			}
			// It is D that counts, not T.
			s.Tasks[0].T = max(d, x.want)
			if d < x.want {
				late(t, s, 0, 1000)
			} else {
				response(t, s, 0, 1000, x.want)
			}
		}
	}
}

func TestOthersDeadlinesDontCount(t *testing.T) { // P19.2
	s := set(t, 1, retry(5, 900, 3, 3, 0), block(4, 900, 7, 5, 3), backup(6, 900, 7, 5, 3))
	want, _ := Response(s, 0, 1000)
	s.Tasks[1].D = 7
	s.Tasks[2].D = 7
	response(t, s, 0, 1000, want)
	late(t, s, 1, 1000)
	late(t, s, 2, 1000)
}

func TestItNeverComesToATime(t *testing.T) { // P19.2
	// The one above takes all ticks, or all but those that bursts take.
	for _, s := range []api.Set{
		set(t, 1, retry(5, farthest, 1, 1, 0), retry(4, 1, 1, 1, 0)),
		set(t, 1, retry(5, farthest, 1, 1, 0), retry(4, 2, 1, 1, 1)),
		set(t, 1, retry(5, farthest, 1, 1, 0), retry(4, 2, 1, 1, 1000)),
		set(t, 1000, retry(5, farthest, 1, 1, 0), retry(4, 1000, 999, 999, 1)),
		set(t, 1, backup(5, farthest, 1, 1, 0), block(4, 3, 1, 1, 0), block(3, 3, 1, 1, 0), block(2, 3, 1, 1, 0)),
	} {
		late(t, s, 0, mostGap)
		late(t, s, 0, 1)
	}
	// By bursts alone.
	for _, g := range []int{1, 2, 3, 100} {
		late(t, set(t, 1, retry(0, farthest, 100, 100, 0)), 0, g)
		late(t, set(t, g, retry(0, farthest, 1, 1, 0)), 0, g)
	}
	// It is below each time that is tried till there is none left that it may be.
	s := set(t, 1, retry(5, farthest, 1, 1, 0), retry(4, 1, 1, 1, 0))
	for _, w := range times {
		next(t, s, 0, mostGap, w, w+1+min(w, 1))
	}
}

func TestManySmallSteps(t *testing.T) { // P19.2
	response(t, set(t, 1, retry(5, farthest, 1, 1, 0), retry(4, farthest, 1, 1, 0), retry(3, 2, 1, 1, 0)), 0, mostGap, 6)
	// The one above takes each second tick, so that each step is half as long as the last one.
	s := set(t, 1, retry(5, farthest, farthest/2-1, 1, 0), retry(3, 2, 1, 1, 0))
	response(t, s, 0, mostGap, farthest)
	s = set(t, 1, retry(5, farthest, farthest/2, 1, 0), retry(3, 2, 1, 1, 0))
	late(t, s, 0, mostGap)
}

func TestTheLastTime(t *testing.T) { // P19.2
	response(t, set(t, 1, block(0, farthest, farthest-1, 1, 0)), 0, mostGap, farthest)
	late(t, set(t, 1, block(0, farthest, farthest, 1, 0)), 0, mostGap)
	late(t, set(t, 1, block(0, farthest, farthest-1, 2, 0)), 0, mostGap)
	late(t, set(t, 1, block(0, farthest, farthest-1, 1, 1)), 0, mostGap)
	// The greatest gap is one of which the last time has one burst, whatever its length.
	response(t, set(t, 1000, block(0, farthest, farthest-1000, 1, 0)), 0, mostGap, farthest)
	response(t, set(t, 1000, block(0, farthest, farthest-1000, 1, 0)), 0, mostGap-1, farthest)
	late(t, set(t, 1000, block(0, farthest, farthest-1000, 1, 0)), 0, mostGap-2)
}

// mightiest is a set of MaxTasks tasks with the greatest numbers that a right set may have.
func mightiest(t *testing.T) api.Set {
	t.Helper()
	var tasks []api.Task
	for prio := range 15 {
		// A T of MaxTime has the greatest Whole, a T of 1 the most releases.
		tasks = append(tasks, retry(prio, farthest, farthest, 1, mostCost))
	}
	tasks = append(tasks, backup(255, farthest, farthest, farthest, mostCost))
	return set(t, mostLength, tasks...)
}

func TestNeverOver(t *testing.T) { // P19.1
	s := mightiest(t)
	const extra = farthest + 1000
	const bursts = 1000 * extra // of which each has a thousand faults
	next(t, s, 15, 1, farthest, 2*extra+15*1001*farthest+bursts*(farthest+999))
	next(t, s, 0, 1, farthest, 1001*farthest+extra+bursts*(farthest+999))
	next(t, s, 15, mostGap, farthest, 2*extra+15*1001*farthest+bursts)
	next(t, s, 15, 1, 0, 2*extra)
	holds(t, s, []int{1, mostGap}, []int{farthest})
	for i := range s.Tasks {
		late(t, s, i, 1)
		late(t, s, i, mostGap)
	}
	for at := range s.Tasks[:15] {
		s.Tasks[at] = block(at, 1, 1, 1, mostCost)
	}
	set(t, mostLength, s.Tasks...)
	next(t, s, 15, 1, farthest, 2*extra+15*1001*farthest+bursts*(farthest+999))
	holds(t, s, gaps, times)
}

func TestManyTasks(t *testing.T) { // P19.1, P19.2
	// Sixteen tasks, in any order of their priorities: the k-th has above it those of lesser ones.
	r := rand.New(rand.NewSource(194))
	for range 50 {
		var tasks []api.Task
		for _, prio := range r.Perm(16) {
			tasks = append(tasks, block(prio, 1000, 2, 3+prio, 1))
		}
		s := set(t, 2, tasks...)
		for i, x := range s.Tasks {
			dear(t, s, i, 4+x.Prio)
			ahead(t, s, i, 0)
			response(t, s, i, mostGap, 3*(x.Prio+1)+2*(4+x.Prio))
		}
		for i := range s.Tasks {
			s.Tasks[i].Mode = api.Backup
		}
		for i, x := range s.Tasks {
			dear(t, s, i, 19)
			ahead(t, s, i, 19)
			response(t, s, i, mostGap, 3*(x.Prio+1)+19+2*19)
		}
	}
}

func TestHighestAndLowest(t *testing.T) { // P19.1
	for _, x := range [][2]int{{0, 255}, {0, 1}, {254, 255}, {127, 128}} {
		s := set(t, 1, retry(x[0], 50, 3, 2, 1), block(x[1], 60, 4, 6, 1))
		response(t, s, 0, mostGap, 5+3)
		response(t, s, 1, mostGap, 5+5+7)
		s = set(t, 1, retry(x[1], 50, 3, 2, 1), block(x[0], 60, 4, 6, 1))
		response(t, s, 0, mostGap, 5+5+7)
		response(t, s, 1, mostGap, 5+7)
	}
}

func TestCosts(t *testing.T) { // P19.1
	for _, cost := range []int{0, 1, 999, mostCost} {
		s := calm(t, 1, retry(1, 9, 4, 2, cost), block(2, 9, 3, 5, cost), backup(3, 9, 2, 6, cost))
		for i := range s.Tasks {
			dear(t, s, i, 6+cost)
			ahead(t, s, i, 6+cost)
		}
		next(t, s, 0, mostGap, 1, (4+2*cost)+(6+cost)+(6+cost))
		next(t, s, 1, mostGap, 1, (3+cost)+(6+cost)+(4+2*cost)+(6+cost))
		next(t, s, 2, mostGap, 1, (2+cost)+(6+cost)+(3+cost)+(4+2*cost)+(6+cost))
	}
}

func TestNextGrows(t *testing.T) { // P19.1
	r := rand.New(rand.NewSource(195))
	for range 300 {
		s := chance(t, r, 1+r.Intn(16), 1+r.Intn(500))
		i, g := r.Intn(len(s.Tasks)), 1+r.Intn(200)
		last := 0
		for w := range 600 {
			n, ok := Next(s, i, g, w)
			if !ok || n < last {
				t.Fatalf("Next(%+v, %d, %d, %d): %d, %v; %d of one less", s, i, g, w, n, ok, last)
			}
			last = n
		}
		w := r.Intn(farthest)
		a, _ := Next(s, i, g, w)
		if b, _ := Next(s, i, g, w+1+r.Intn(farthest-w)); b < a || a < last && w >= 600 {
			t.Fatalf("Next(%+v, %d, %d, ..): %d of %d, then %d", s, i, g, a, w, b)
		}
	}
}

func TestNextIsAboveEachLesserTime(t *testing.T) { // P19.2
	r := rand.New(rand.NewSource(196))
	there := 0
	for range 400 {
		s := light(t, r, 1+r.Intn(5), 400)
		i, g := r.Intn(len(s.Tasks)), 1+r.Intn(1000)
		n, ok := Response(s, i, g)
		if !ok {
			continue
		}
		there++
		next(t, s, i, g, n, n)
		for w := range n {
			if m, ok := Next(s, i, g, w); !ok || m <= w {
				t.Fatalf("Next(%+v, %d, %d, %d): %d, %v; its response time is %d", s, i, g, w, m, ok, n)
			}
		}
	}
	if there < 100 {
		t.Fatalf("%d times: not enough", there)
	}
}

// less tells whether a response is no greater than another one; one that isn't there is greater than all.
func less(a int, aOk bool, b int, bOk bool) bool { return !bOk || aOk && a <= b }

func TestGreaterGaps(t *testing.T) { // P19.3
	r := rand.New(rand.NewSource(197))
	for range 150 {
		s := light(t, r, 1+r.Intn(5), 300)
		for i := range s.Tasks {
			last, lastOk := 0, false
			for _, g := range append(upTo(120), 200, 400, 1000, farthest, mostGap-1, mostGap) {
				n, ok := Response(s, i, g)
				if !less(n, ok, last, lastOk) {
					t.Fatalf("Response(%+v, %d, %d): %d, %v; %d, %v of the lesser gap", s, i, g, n, ok, last, lastOk)
				}
				last, lastOk = n, ok
			}
		}
	}
}

func TestGreaterBursts(t *testing.T) { // P19.3
	r := rand.New(rand.NewSource(198))
	for range 150 {
		s := light(t, r, 1+r.Intn(5), 600)
		g := 1 + r.Intn(1000)
		for i := range s.Tasks {
			last, lastOk := 0, true
			for _, length := range append(upTo(60), 100, 500, 999, mostLength) {
				s.Burst = length
				n, ok := Response(s, i, g)
				if !less(last, lastOk, n, ok) {
					t.Fatalf("Response(%+v, %d, %d): %d, %v; %d, %v of the lesser burst", s, i, g, n, ok, last, lastOk)
				}
				last, lastOk = n, ok
			}
		}
	}
}

func upTo(n int) []int {
	var l []int
	for i := range n {
		l = append(l, i+1)
	}
	return l
}

func TestNoLessThanTheWhole(t *testing.T) { // P19.3
	r := rand.New(rand.NewSource(199))
	for range 2000 {
		s := light(t, r, 1+r.Intn(5), 500)
		for i, x := range s.Tasks {
			g := 1 + r.Intn(mostGap)
			n, ok := Response(s, i, g)
			// One fault may always strike, so that it is more, even.
			if ok && n <= wholeOf(x) {
				t.Fatalf("Response(%+v, %d, %d): %d; its whole demand is %d", s, i, g, n, wholeOf(x))
			}
			if ok && n > x.D {
				t.Fatalf("Response(%+v, %d, %d): %d", s, i, g, n)
			}
		}
	}
}

func TestMoreTasksTakeLonger(t *testing.T) { // P19.2
	r := rand.New(rand.NewSource(200))
	for range 500 {
		s := light(t, r, 2+r.Intn(4), 500)
		g := 1 + r.Intn(1000)
		fewer := set(t, s.Burst, s.Tasks[:len(s.Tasks)-1]...)
		for i := range fewer.Tasks {
			a, aOk := Response(fewer, i, g)
			b, bOk := Response(s, i, g)
			if !less(a, aOk, b, bOk) {
				t.Fatalf("Response(%+v, %d, %d): %d, %v; without the last task %d, %v", s, i, g, b, bOk, a, aOk)
			}
		}
	}
}

func TestTheBurstsAreThoseOfMost(t *testing.T) { // P19.1
	for _, length := range lengths {
		s := calm(t, length, block(0, 9, 1, 1, 0))
		for _, g := range gaps {
			for _, w := range times {
				next(t, s, 0, g, w, 1+length*burst.Most(w, length, g))
			}
		}
	}
}

func TestFirmNumbersDontCount(t *testing.T) { // P19.1
	s := three(t)
	other := three(t)
	for at := range other.Tasks {
		other.Tasks[at].M, other.Tasks[at].K = 1, 1+at*30
	}
	set(t, other.Burst, other.Tasks...)
	for i := range s.Tasks {
		n, _ := Response(s, i, 1000)
		response(t, other, i, 1000, n)
	}
}

func TestWhatIsHandedInStays(t *testing.T) { // P19.4
	r := rand.New(rand.NewSource(201))
	for range 300 {
		n := 1 + r.Intn(16)
		full := light(t, r, 16, 400)
		behind := slices.Clone(full.Tasks)
		// A list with room behind its end, where other tasks lie.
		s := set(t, full.Burst, full.Tasks[:n]...)
		i, g, w := r.Intn(n), 1+r.Intn(500), r.Intn(500)
		wantDear, wantAhead := dearOf(s, i), aheadOf(s, i)
		wantNext := int(made(s, i, g, w).Int64())
		wantTime, wantOk := Response(s, i, g)
		for range 2 {
			dear(t, s, i, wantDear)
			ahead(t, s, i, wantAhead)
			next(t, s, i, g, w, wantNext)
			if a, ok := Response(s, i, g); a != wantTime || ok != wantOk {
				t.Fatalf("Response(%+v, %d, %d): %d, %v; %d, %v the first time", s, i, g, a, ok, wantTime, wantOk)
			}
			if !slices.Equal(full.Tasks, behind) || s.Burst != full.Burst || len(s.Tasks) != n {
				t.Fatalf("what was handed in is changed: %+v; was %+v", full.Tasks, behind)
			}
		}
	}
}

func TestWhatIsHandedInIsNotKept(t *testing.T) { // P19.4, P1
	s := three(t)
	response(t, s, 0, 1000, 66)
	s.Tasks[1].Cost = 0
	response(t, s, 0, 1000, 64)
	dear(t, s, 2, 7)
	s.Tasks[2].Mode = api.Block
	dear(t, s, 1, 4)
	ahead(t, s, 1, 0)
	s.Tasks[0], s.Tasks[1] = s.Tasks[1], s.Tasks[0]
	response(t, s, 1, 1000, 64)
	s.Burst = 1
	response(t, s, 1, 1000, 48)
}

func TestWrongPlaces(t *testing.T) { // P1
	for _, s := range []api.Set{three(t), mightiest(t), {}, {Burst: 1}, {Burst: 1, Tasks: []api.Task{}}} {
		for _, i := range append([]int{len(s.Tasks), len(s.Tasks) + 1}, wrongs...) {
			dear(t, s, i, 0)
			ahead(t, s, i, 0)
			if n, ok := Next(s, i, 1000, 1); n != 0 || ok {
				t.Fatalf("Next of place %d: %d, %v", i, n, ok)
			}
			late(t, s, i, 1000)
		}
	}
}

func TestWrongGapsAndTimes(t *testing.T) { // P1
	s := three(t)
	for i := range s.Tasks {
		for _, g := range append([]int{0}, wrongs...) {
			if n, ok := Next(s, i, g, 1); n != 0 || ok {
				t.Fatalf("Next of the gap %d: %d, %v", g, n, ok)
			}
			late(t, s, i, g)
		}
		for _, w := range append([]int{farthest + 1, farthest + 2}, wrongs...) {
			if n, ok := Next(s, i, 1000, w); n != 0 || ok {
				t.Fatalf("Next of the time %d: %d, %v", w, n, ok)
			}
		}
	}
}

func TestWrongSetsEnd(t *testing.T) { // P1
	// Nothing is promised of them but that the calls end.
	all := append([]int{0, 1}, wrongs...)
	change := []func(x *api.Task, n int){
		func(x *api.Task, n int) { x.T = n },
		func(x *api.Task, n int) { x.D = n },
		func(x *api.Task, n int) { x.C = n },
		func(x *api.Task, n int) { x.A = n },
		func(x *api.Task, n int) { x.Seg = n },
		func(x *api.Task, n int) { x.Cost = n },
		func(x *api.Task, n int) { x.Mode = n },
		func(x *api.Task, n int) { x.Prio = n },
	}
	for _, n := range all {
		for _, f := range change {
			for at := range 3 {
				s := three(t)
				f(&s.Tasks[at], n)
				end(s)
				s.Burst = n
				end(s)
			}
		}
	}
	// A deadline that no going on would come to.
	s := three(t)
	s.Tasks[0].D = math.MaxInt
	s.Tasks[1].T, s.Tasks[1].C, s.Tasks[1].Cost = 1, 1, 0
	late(t, s, 0, mostGap)
}

func end(s api.Set) {
	for i := range s.Tasks {
		Dear(s, i)
		Ahead(s, i)
		for _, g := range []int{1, mostGap} {
			Next(s, i, g, 0)
			Next(s, i, g, farthest)
			Response(s, i, g)
		}
	}
}

func TestManySteps(t *testing.T) { // P19.2, P1
	// Each step is one tick, up to the last time: the going on is as long as it may be.
	tasks := []api.Task{retry(255, farthest, 1, 1, 0)}
	tasks = append(tasks, retry(0, 1, 1, 1, 0))
	for prio := range 14 {
		tasks = append(tasks, retry(prio+1, farthest, 1, 1, 0))
	}
	s := set(t, 1, tasks...)
	late(t, s, 0, mostGap)
}
