package recover

import (
	"math"
	"math/rand"
	"strings"
	"sync"
	"testing"

	"pendulum/api"
	"pendulum/demand"
	"pendulum/task"
)

const (
	farthest = 1 << 20 // a time of a task
	dearest  = 1000    // a cost
)

var (
	modes = []int{api.Retry, api.Block, api.Backup}
	// far are numbers that lie out of all bounds, and some that look right when they wrap round.
	far = []int{math.MinInt, math.MinInt + 1, -1 << 62, -1 << 40, -1 << 32, -farthest, -1001, -2, -1, 0,
		farthest + 1, 2 * farthest, 1<<32 + 1, 1 << 40, 1<<62 - 1, 1 << 62, 1<<62 + 1, math.MaxInt - 1, math.MaxInt}
)

// made is a right task. What the mode doesn't take of seg and a is left out.
func made(t *testing.T, mode, c, seg, a, cost int) api.Task {
	t.Helper()
	x := api.Task{Name: "x", T: farthest, D: farthest, C: c, Cost: cost, M: 1, K: 1, Mode: mode}
	if mode == api.Retry {
		x.Seg = seg
	} else {
		x.A = a
	}
	isRight(t, x)
	return x
}

func isRight(t *testing.T, x api.Task) {
	t.Helper()
	if !task.Right(api.Set{Burst: 1, Tasks: []api.Task{x}}) {
		t.Fatalf("the test asks of a task that isn't right: %+v", x)
	}
}

// chance is a right task of any kind, whose times are at most most.
func chance(t *testing.T, r *rand.Rand, most int) api.Task {
	t.Helper()
	x := api.Task{Name: "x", Mode: modes[r.Intn(3)], Prio: r.Intn(256)}
	x.T = 1 + r.Intn(most)
	x.D = 1 + r.Intn(x.T)
	x.C = 1 + r.Intn(x.D)
	x.K = 1 + r.Intn(64)
	x.M = 1 + r.Intn(x.K)
	x.Cost = r.Intn(5)
	if x.Mode == api.Retry {
		x.Seg = 1 + r.Intn(x.C)
	} else {
		x.A = 1 + r.Intn(x.D)
	}
	isRight(t, x)
	return x
}

// small goes through right tasks of few ticks, and each demand of them.
func small(t *testing.T, most int, do func(x api.Task, d int)) {
	t.Helper()
	for _, mode := range modes {
		for c := 1; c <= most; c++ {
			for n := 1; n <= c; n++ {
				for cost := range 3 {
					for d := 1; d <= c; d++ {
						do(made(t, mode, c, n, n, cost), d)
					}
				}
			}
		}
	}
}

// after is a run behind a tick, and what the tick came to.
type after struct {
	run   api.Run
	event int
}

// story is a run written down ahead: part by part, each with all the ticks that it gets, where strikes tells which ticks of all are struck (none behind its end).
type story struct {
	task    api.Task
	demand  int
	strikes []bool
	fails   int
	ticks   []after
}

// try writes a part's ticks down, and tells whether none was struck.
func (s *story) try(part, long int) bool {
	clean := true
	for i := range long {
		at := len(s.ticks)
		if at < len(s.strikes) && s.strikes[at] {
			clean = false
		}
		run := api.Run{Task: s.task, Demand: s.demand, Part: part, Left: long - 1 - i, Struck: !clean, Fails: s.fails}
		s.ticks = append(s.ticks, after{run, api.Runs})
	}
	return clean
}

// turn writes down what the last tick came to, and which part is begun.
func (s *story) turn(event, part, long int) {
	run := api.Run{Task: s.task, Demand: s.demand, Part: part, Left: long, Fails: s.fails}
	s.ticks[len(s.ticks)-1] = after{run, event}
}

// until tries a part again and again till it passes.
func (s *story) until(part, long int) {
	for !s.try(part, long) {
		s.fails++
		s.turn(api.Failed, part, long)
	}
}

// told is how a run goes.
func told(x api.Task, d int, strikes []bool) []after {
	s := &story{task: x, demand: d, strikes: strikes}
	switch parts := cut(x, d); {
	case x.Mode == api.Retry:
		for i, long := range parts {
			s.until(i, long)
			if i+1 < len(parts) {
				s.turn(api.Passed, i+1, parts[i+1])
			}
		}
	case !s.try(0, parts[0]):
		s.fails++
		event := api.Failed
		if x.Mode == api.Backup {
			event = api.Called
		}
		s.turn(event, 1, x.A+x.Cost)
		s.until(1, x.A+x.Cost)
	}
	s.ticks[len(s.ticks)-1].event = api.Done
	return s.ticks
}

// cut are a demand's parts, tick by tick: of Retry one is begun wherever the last one has Seg ticks.
func cut(x api.Task, d int) []int {
	var l []int
	had := 0
	for range d {
		if l == nil || x.Mode == api.Retry && had == x.Seg {
			l, had = append(l, x.Cost), 0
		}
		l[len(l)-1]++
		had++
	}
	return l
}

func sum(l []int) int {
	n := 0
	for _, part := range l {
		n += part
	}
	return n
}

// begin begins a run of a right demand.
func begin(t *testing.T, x api.Task, d int) api.Run {
	t.Helper()
	r, e := Begin(x, d)
	if e != api.OK {
		t.Fatalf("Begin(%+v, %d): %d", x, d, e)
	}
	return r
}

// holds holds a run against its story, tick by tick.
func holds(t *testing.T, x api.Task, d int, strikes []bool) {
	t.Helper()
	want := told(x, d, strikes)
	r := begin(t, x, d)
	for i, w := range want {
		struck := i < len(strikes) && strikes[i]
		next, event := Step(r, struck)
		if next != w.run || event != w.event {
			t.Fatalf("%+v, demand %d, struck %v, tick %d: %+v, %d; want %+v, %d", x, d, strikes, i, next, event, w.run, w.event)
		}
		r = next
	}
}

// at is strikes of the ticks that are named.
func at(ticks ...int) []bool {
	l := make([]bool, 1)
	for _, n := range ticks {
		for len(l) <= n {
			l = append(l, false)
		}
		l[n] = true
	}
	return l
}

// bits are strikes by the bits of a number.
func bits(n, long int) []bool {
	l := make([]bool, long)
	for i := range l {
		l[i] = n>>i&1 == 1
	}
	return l
}

func TestBegin(t *testing.T) { // P15.1
	small(t, 12, func(x api.Task, d int) {
		want := api.Run{Task: x, Demand: d, Part: 0, Left: cut(x, d)[0], Struck: false, Fails: 0}
		if r, e := Begin(x, d); r != want || e != api.OK {
			t.Fatalf("Begin(%+v, %d): %+v, %d", x, d, r, e)
		}
	})
}

func TestBeginOfGreatTasks(t *testing.T) { // P15.1
	for _, c := range []int{farthest, farthest - 1, 1 << 19, 65537} {
		for _, n := range []int{1, 2, 1023, c / 2, c - 1, c} {
			for _, cost := range []int{0, 1, dearest} {
				for _, d := range []int{1, 2, n, c - 1, c} {
					if r := begin(t, made(t, api.Retry, c, n, n, cost), d); r.Left != min(d, n)+cost || r.Demand != d {
						t.Errorf("Retry of C %d, Seg %d, Cost %d, demand %d: %+v", c, n, cost, d, r)
					}
					for _, mode := range modes[1:] {
						if r := begin(t, made(t, mode, c, n, n, cost), d); r.Left != d+cost || r.Demand != d {
							t.Errorf("mode %d of C %d, A %d, Cost %d, demand %d: %+v", mode, c, n, cost, d, r)
						}
					}
				}
			}
		}
	}
}

func TestBeginOfWrongDemands(t *testing.T) { // P15.1: Run{} and ErrArg
	wrong := func(x api.Task, d int) {
		t.Helper()
		if r, e := Begin(x, d); r != (api.Run{}) || e != api.ErrArg {
			t.Fatalf("Begin(%+v, %d): %+v, %d; want none, ErrArg", x, d, r, e)
		}
	}
	small(t, 12, func(x api.Task, d int) {
		for _, d := range append([]int{-d, -x.C, -x.Seg, x.C + 1, x.C + 2, x.C + d, x.C + x.Seg + 1, 2*x.C + 1, x.C + 1<<32}, far...) {
			wrong(x, d)
		}
	})
	for _, mode := range modes {
		for _, n := range []int{1, farthest} {
			for _, d := range far {
				wrong(made(t, mode, farthest, n, n, dearest), d)
			}
		}
	}
}

// read is a run's events as letters, up to Done: . Runs, p Passed, f Failed, c Called, d Done. It stops where faults end.
func read(t *testing.T, x api.Task, d int, faults string) (string, api.Run) {
	t.Helper()
	r := begin(t, x, d)
	var out strings.Builder
	for i := range faults {
		next, event := Step(r, faults[i] == 'x')
		if event < api.Runs || event > api.Done {
			t.Fatalf("%+v came to %d", r, event)
		}
		out.WriteByte(".pfcd"[event])
		r = next
		if event == api.Done {
			break
		}
	}
	return out.String(), r
}

func TestStepWrittenOut(t *testing.T) { // P15.1
	example := made(t, api.Retry, 2, 2, 0, 0)
	retry := made(t, api.Retry, 5, 2, 0, 1)
	single := made(t, api.Retry, 3, 1, 0, 0)
	exact := made(t, api.Retry, 4, 2, 0, 0)
	block := made(t, api.Block, 3, 0, 2, 1)
	backup := made(t, api.Backup, 3, 0, 2, 1)
	least := made(t, api.Backup, 1, 0, 1, 0)
	longer := made(t, api.Block, 1, 0, 4, 0)
	for _, x := range []struct {
		task   api.Task
		d      int
		faults string
		want   string
		part   int
		fails  int
	}{
		// The chapter's example.
		{example, 2, "x---", ".f.d", 0, 1},
		{example, 2, "-x--", ".f.d", 0, 1},
		{example, 1, "-", "d", 0, 0},
		{example, 1, "x-", "fd", 0, 1},
		// Parts of 3, 3, 2: struck in the first, within, and in the last tick; both again.
		{retry, 5, "--------", "..p..p.d", 2, 0},
		{retry, 5, "x----------", "..f..p..p.d", 2, 1},
		{retry, 5, "-x---------", "..f..p..p.d", 2, 1},
		{retry, 5, "--x--------", "..f..p..p.d", 2, 1},
		{retry, 5, "xxx--------", "..f..p..p.d", 2, 1},
		{retry, 5, "---x-------", "..p..f..p.d", 2, 1},
		{retry, 5, "------x---", "..p..p.f.d", 2, 1},
		{retry, 5, "-------x--", "..p..p.f.d", 2, 1},
		{retry, 5, "------x-xx--", "..p..p.f.f.d", 2, 2},
		{retry, 5, "x--x--x-----------", "..f..f..f..p..p.d", 2, 3},
		{retry, 5, "--xx-----x----", "..f..f..p..f..p.d"[:14], 1, 3},
		// A lesser demand: parts of 3, 2; of 3; of 2.
		{retry, 3, "-----", "..p.d", 1, 0},
		{retry, 3, "---x---", "..p.f.d", 1, 1},
		{retry, 2, "---", "..d", 0, 0},
		{retry, 1, "-x--", ".f.d", 0, 1},
		// Segments of one tick, no cost.
		{single, 3, "---", "ppd", 2, 0},
		{single, 3, "x-x-x-", "fpfpfd", 2, 3},
		{single, 3, "--xx-", "ppffd", 2, 2},
		// No shorter last part.
		{exact, 4, "----", ".p.d", 1, 0},
		{exact, 3, "---", ".pd", 1, 0},
		{exact, 3, "--x-", ".pfd", 1, 1},
		// The primary of 4, the alternate of 3.
		{block, 3, "----", "...d", 0, 0},
		{block, 3, "x------", "...f..d", 1, 1},
		{block, 3, "---x---", "...f..d", 1, 1},
		{block, 3, "x---x-----", "...f..f..d", 1, 2},
		{block, 3, "x-----x--x---", "...f..f..f..d", 1, 3},
		{block, 1, "-x---", ".f..d", 1, 1},
		{backup, 3, "----", "...d", 0, 0},
		{backup, 3, "x------", "...c..d", 1, 1},
		{backup, 3, "---x---", "...c..d", 1, 1},
		{backup, 3, "xxxxxxxxxx---", "...c..f..f..d", 1, 3},
		{backup, 2, "--x---", "..c..d", 1, 1},
		{backup, 1, "x-x----", ".c..f..d"[:7], 1, 2},
		{least, 1, "-", "d", 0, 0},
		{least, 1, "xxx-", "cffd", 1, 3},
		{longer, 1, "x----", "f...d", 1, 1},
	} {
		got, r := read(t, x.task, x.d, x.faults)
		if got != x.want || r.Part != x.part || r.Fails != x.fails {
			t.Errorf("%+v, %d, %s: %s, part %d, %d fails; want %s, part %d, %d", x.task, x.d, x.faults, got, r.Part, r.Fails, x.want, x.part, x.fails)
		}
		if strings.HasSuffix(got, "d") && (r.Left != 0 || r.Struck) {
			t.Errorf("%+v, %d, %s: done with %+v", x.task, x.d, x.faults, r)
		}
	}
}

func TestStepWithoutFaults(t *testing.T) { // P15.1
	small(t, 16, func(x api.Task, d int) {
		holds(t, x, d, nil)
	})
}

func TestStepWithOneStruckTickAtEachPlace(t *testing.T) { // P15.1
	small(t, 9, func(x api.Task, d int) {
		for i := range sum(cut(x, d)) + x.Seg + x.A + 2*x.Cost {
			holds(t, x, d, at(i))
		}
	})
}

func TestStepWithTwoStruckTicksAtEachPlace(t *testing.T) { // P15.1
	small(t, 5, func(x api.Task, d int) {
		most := sum(cut(x, d)) + x.Seg + x.A + 2*x.Cost
		for i := range most {
			for j := range i {
				holds(t, x, d, at(j, i))
			}
		}
	})
}

func TestStepWithAllFaultsOfAWhile(t *testing.T) { // P15.1
	small(t, 3, func(x api.Task, d int) {
		for n := range 1 << 9 {
			holds(t, x, d, bits(n, 9))
		}
	})
}

func TestStepWithEachTickStruckForAWhile(t *testing.T) { // P15.1
	small(t, 6, func(x api.Task, d int) {
		for long := range 24 {
			holds(t, x, d, bits(-1, long))
			// The while may begin later.
			holds(t, x, d, bits(-1<<min(3, long), long))
		}
	})
}

func TestStepByChance(t *testing.T) { // P15.1
	r := rand.New(rand.NewSource(15))
	for range 5000 {
		x := chance(t, r, 1+r.Intn(200))
		holds(t, x, 1+r.Intn(x.C), chanceStrikes(r, 1+r.Intn(1000)))
	}
}

// chanceStrikes are strikes that come seldom or often, alone or in bursts.
func chanceStrikes(r *rand.Rand, long int) []bool {
	l := make([]bool, long)
	gap, burst := 1+r.Intn(100), 1+r.Intn(6)
	for i := range l {
		if r.Intn(gap) == 0 {
			for j := i; j < min(i+burst, long); j++ {
				l[j] = true
			}
		}
	}
	return l
}

func TestStepOfGreatRuns(t *testing.T) { // P15.1
	r := rand.New(rand.NewSource(151))
	const c = 50021
	for _, x := range []api.Task{
		made(t, api.Retry, c, 1, 0, 0),
		made(t, api.Retry, c, 3, 0, 1),
		made(t, api.Retry, c, c, 0, dearest),
		made(t, api.Retry, c, c-1, 0, dearest),
		made(t, api.Block, c, 0, 2*c, dearest),
		made(t, api.Backup, c, 0, 7, dearest),
	} {
		holds(t, x, c, nil)
		holds(t, x, c, at(0, c/2, c-1, c))
		holds(t, x, 1+r.Intn(c), at(r.Intn(c)))
	}
}

func TestStepOfTheGreatestRuns(t *testing.T) { // P15.1
	for _, x := range []struct{ mode, n, cost, parts, long, again int }{
		{api.Retry, 1, 0, farthest, farthest, 1},
		{api.Retry, 2, 1, farthest / 2, farthest + farthest/2, 3},
		{api.Retry, farthest, dearest, 1, farthest + dearest, farthest + dearest},
		{api.Retry, farthest - 1, dearest, 2, farthest + 2*dearest, farthest - 1 + dearest},
		{api.Block, farthest, dearest, 2, farthest + dearest, farthest + dearest},
		{api.Backup, 1, 0, 2, farthest, 1},
	} {
		// The first tick is struck.
		r, _ := Step(begin(t, made(t, x.mode, farthest, x.n, x.n, x.cost), farthest), true)
		n := 1
		for event := api.Runs; event != api.Done; n++ {
			r, event = Step(r, false)
		}
		if n != x.long+x.again || r.Part != x.parts-1 || r.Fails != 1 || r.Left != 0 || r.Struck {
			t.Errorf("%+v: %d ticks, done with %+v", x, n, r)
		}
	}
}

func TestEachNumberOfATaskCounts(t *testing.T) { // P15.1: the run has the task as it is
	r := rand.New(rand.NewSource(152))
	for range 500 {
		x := chance(t, r, 60)
		x.Name = "another_one"
		d := 1 + r.Intn(x.C)
		run := begin(t, x, d)
		for i := range 30 {
			if run.Task != x || run.Demand != d {
				t.Fatalf("a run of %+v, %d is one of %+v, %d", x, d, run.Task, run.Demand)
			}
			next, event := Step(run, i%7 == 3)
			if run = next; event == api.Done {
				break
			}
		}
	}
}

func TestUrgent(t *testing.T) { // P15.1
	ask := func(x api.Task, d int, strikes []bool) {
		t.Helper()
		r := begin(t, x, d)
		if Urgent(r) {
			t.Fatalf("%+v is urgent at its begin", r)
		}
		called := false
		for i := 0; ; i++ {
			next, event := Step(r, i < len(strikes) && strikes[i])
			r = next
			if event == api.Done {
				return
			}
			called = called || event == api.Called
			if Urgent(r) != called || called && x.Mode != api.Backup {
				t.Fatalf("%+v, %d, struck %v, tick %d: urgent is %v", x, d, strikes, i, Urgent(r))
			}
		}
	}
	small(t, 6, func(x api.Task, d int) {
		ask(x, d, nil)
		for i := range sum(cut(x, d)) {
			ask(x, d, at(i))
			ask(x, d, bits(-1, i+1))
		}
	})
	r := rand.New(rand.NewSource(153))
	for range 2000 {
		x := chance(t, r, 1+r.Intn(100))
		ask(x, 1+r.Intn(x.C), chanceStrikes(r, 1+r.Intn(500)))
	}
}

func TestCalledJustBehindThePrimaryOfBackup(t *testing.T) { // P15.1
	r := rand.New(rand.NewSource(154))
	for range 3000 {
		x := chance(t, r, 1+r.Intn(50))
		run := begin(t, x, 1+r.Intn(x.C))
		for _, struck := range append(chanceStrikes(r, 200), make([]bool, 1000)...) {
			next, event := Step(run, struck)
			if (event == api.Called) != (x.Mode == api.Backup && run.Part == 0 && next.Part == 1) {
				t.Fatalf("%+v to %+v: %d", run, next, event)
			}
			if run = next; event == api.Done {
				break
			}
		}
	}
}

// taken is how many ticks a run takes till it is done, if no fault strikes and its part isn't struck.
func taken(t *testing.T, r api.Run) int {
	t.Helper()
	r.Struck = false
	for n := 1; ; n++ {
		next, event := Step(r, false)
		if event == api.Done {
			return n
		}
		if event == api.Failed || event == api.Called {
			t.Fatalf("%+v failed without a fault", r)
		}
		r = next
	}
}

// rests holds Rest of each run on the way against the ticks that it takes.
func rests(t *testing.T, x api.Task, d int, strikes []bool) {
	t.Helper()
	r := begin(t, x, d)
	for i := 0; ; i++ {
		if n, want := Rest(r), taken(t, r); n != want {
			t.Fatalf("Rest(%+v): %d; it takes %d", r, n, want)
		}
		next, event := Step(r, i < len(strikes) && strikes[i])
		if event == api.Done {
			return
		}
		r = next
	}
}

func TestRest(t *testing.T) { // P15.2
	small(t, 7, func(x api.Task, d int) {
		if n := Rest(begin(t, x, d)); n != sum(cut(x, d)) {
			t.Fatalf("Rest of %+v, %d at its begin: %d; want %d", x, d, n, sum(cut(x, d)))
		}
		rests(t, x, d, nil)
		for i := range sum(cut(x, d)) {
			rests(t, x, d, at(i))
		}
		rests(t, x, d, bits(-1, 12))
	})
}

func TestRestByChance(t *testing.T) { // P15.2
	r := rand.New(rand.NewSource(155))
	for range 1000 {
		x := chance(t, r, 1+r.Intn(60))
		rests(t, x, 1+r.Intn(x.C), chanceStrikes(r, 1+r.Intn(200)))
	}
}

func TestRestWrittenOut(t *testing.T) { // P15.2
	retry := made(t, api.Retry, 5, 2, 0, 1)
	block := made(t, api.Block, 3, 0, 5, 1)
	backup := made(t, api.Backup, 3, 0, 2, 1)
	for _, x := range []struct {
		task   api.Task
		d      int
		faults string
		want   int
	}{
		{retry, 5, "", 8},
		{retry, 5, "-", 7},
		{retry, 5, "--", 6},
		{retry, 5, "---", 5},
		{retry, 5, "------", 2},
		{retry, 5, "-------", 1},
		// A struck part counts as if it weren't, till its test; then it begins again.
		{retry, 5, "x", 7},
		{retry, 5, "xx", 6},
		{retry, 5, "x--", 8},
		{retry, 5, "---x--", 5},
		{retry, 5, "------xx", 2},
		{retry, 4, "", 6},
		{retry, 3, "", 5},
		{retry, 3, "---", 2},
		{retry, 1, "", 2},
		{block, 3, "", 4},
		{block, 3, "x", 3},
		{block, 3, "x---", 6},
		{block, 3, "x---x-----", 6},
		{block, 1, "", 2},
		{backup, 3, "---", 1},
		{backup, 3, "---x", 3},
		{backup, 3, "---xx", 2},
	} {
		if _, r := read(t, x.task, x.d, x.faults); Rest(r) != x.want {
			t.Errorf("%+v, %d, %s: %d; want %d", x.task, x.d, x.faults, Rest(r), x.want)
		}
	}
}

func TestRestOfGreatRuns(t *testing.T) { // P15.2
	for _, c := range []int{farthest, farthest - 1, 65537} {
		for _, n := range []int{1, 2, 3, 1000, c / 2, c - 1, c} {
			for _, cost := range []int{0, 1, dearest} {
				x := made(t, api.Retry, c, n, 0, cost)
				if got := Rest(begin(t, x, c)); got != demand.Whole(x) {
					t.Errorf("of %+v at its begin: %d; want %d", x, got, demand.Whole(x))
				}
				for _, mode := range modes[1:] {
					x := made(t, mode, c, 0, n, cost)
					r := begin(t, x, c)
					if got := Rest(r); got != c+cost {
						t.Errorf("of %+v: %d", r, got)
					}
				}
			}
		}
	}
	// Each tick makes it one less, also where there are a million parts; it is asked at each of them.
	x := made(t, api.Retry, farthest, 1, 0, 1)
	r := begin(t, x, x.C)
	for want := 2 * farthest; want > 0; want-- {
		if n := Rest(r); n != want {
			t.Fatalf("Rest(%+v): %d; want %d", r, n, want)
		}
		r, _ = Step(r, false)
	}
	if r.Left != 0 || r.Part != farthest-1 {
		t.Errorf("done with %+v", r)
	}
}

func TestStruckDoesNotCountForRest(t *testing.T) { // P15.2
	r := rand.New(rand.NewSource(156))
	for range 2000 {
		x := chance(t, r, 100)
		run := begin(t, x, 1+r.Intn(x.C))
		for range r.Intn(Rest(run)) {
			run, _ = Step(run, false)
		}
		struck := run
		struck.Struck = true
		if Rest(run) != Rest(struck) {
			t.Fatalf("Rest(%+v) is %d, struck %d", run, Rest(run), Rest(struck))
		}
	}
}

// follow steps a run till it is done, and holds what follows from it.
func follow(t *testing.T, x api.Task, d int, strikes []bool) {
	t.Helper()
	r := begin(t, x, d)
	struck, clean := 0, true
	for i := 1; ; i++ {
		hit := i <= len(strikes) && strikes[i-1]
		if hit {
			struck++
		}
		clean = clean && !hit
		next, event := Step(r, hit)
		if next.Fails > struck || next.Fails-r.Fails > 1 || (next.Fails > r.Fails) != (event == api.Failed || event == api.Called) {
			t.Fatalf("%+v, struck %d times, to %+v: %d", r, struck, next, event)
		}
		if event == api.Done {
			if !clean || next.Struck || next.Left != 0 {
				t.Fatalf("%+v, %d, struck %v: done with %+v; wasn't its last part struck? %v", x, d, strikes, next, clean)
			}
			least := sum(demand.Parts(x, d))
			if most := least + next.Fails*demand.Extra(x); i > most || next.Fails == 0 && i != least {
				t.Fatalf("%+v, %d, struck %v: done behind %d ticks with %d fails; the parts have %d, a fail costs %d", x, d, strikes, i, next.Fails, least, demand.Extra(x))
			}
			return
		}
		if next.Left < 1 {
			t.Fatalf("%+v isn't done", next)
		}
		if event != api.Runs {
			clean = true
		}
		r = next
	}
}

func TestWhatFollows(t *testing.T) { // P15.3
	small(t, 6, func(x api.Task, d int) {
		follow(t, x, d, nil)
		for i := range sum(cut(x, d)) + x.A + x.Seg {
			follow(t, x, d, at(i))
			follow(t, x, d, bits(-1, i))
		}
	})
	small(t, 3, func(x api.Task, d int) {
		for n := range 1 << 9 {
			follow(t, x, d, bits(n, 9))
		}
	})
	r := rand.New(rand.NewSource(157))
	for range 5000 {
		x := chance(t, r, 1+r.Intn(150))
		follow(t, x, 1+r.Intn(x.C), chanceStrikes(r, 1+r.Intn(1500)))
	}
}

func TestWhatIsHandedInStays(t *testing.T) { // P15.1
	r := rand.New(rand.NewSource(158))
	for range 3000 {
		x := chance(t, r, 1+r.Intn(50))
		same := x
		d := 1 + r.Intn(x.C)
		run := begin(t, x, d)
		if x != same {
			t.Fatalf("%+v was changed: %+v", same, x)
		}
		for _, struck := range append(chanceStrikes(r, 100), make([]bool, 400)...) {
			was, rest, urgent := run, Rest(run), Urgent(run)
			next, event := Step(run, struck)
			// It hangs on the run alone: another run between, and another outcome of the same one, don't count.
			Step(begin(t, x, 1), true)
			Step(run, !struck)
			again, same := Step(run, struck)
			if run != was || next != again || event != same || Rest(run) != rest || Urgent(run) != urgent {
				t.Fatalf("%+v is %+v; behind it %+v, %d and %+v, %d", was, run, next, event, again, same)
			}
			if run = next; event == api.Done {
				break
			}
		}
	}
}

func TestAtOnce(t *testing.T) { // P1
	var all sync.WaitGroup
	for seed := range 8 {
		all.Go(func() {
			r := rand.New(rand.NewSource(int64(seed)))
			x := api.Task{Name: "x", T: 90, D: 80, C: 1 + r.Intn(60), A: 3, Cost: 1, M: 1, K: 1, Mode: api.Backup}
			for range 300 {
				strikes := chanceStrikes(r, 200)
				d := 1 + r.Intn(x.C)
				run, _ := Begin(x, d)
				for i, w := range told(x, d, strikes) {
					var event int
					run, event = Step(run, i < len(strikes) && strikes[i])
					if run != w.run || event != w.event {
						t.Errorf("%+v, %d isn't as it is alone", run, event)
						return
					}
				}
			}
		})
	}
	all.Wait()
}

// asked asks for all of a run, made or not; no answer counts.
func asked(r api.Run) {
	Urgent(r)
	Rest(r)
	for _, struck := range []bool{true, false, false} {
		next, _ := Step(r, struck)
		Urgent(next)
		Rest(next)
		r = next
	}
}

func TestRunsThatNoCallHasMadeDoNotPanic(t *testing.T) { // P1
	odd := append([]int{1, 2, 3, 5, farthest}, far...)
	for _, mode := range append([]int{0, 4}, modes...) {
		for _, part := range odd {
			for _, left := range odd {
				for _, d := range odd {
					x := api.Task{Name: "x", T: 9, D: 9, C: 5, Seg: 2, A: 2, Cost: 1, M: 1, K: 1, Mode: mode}
					asked(api.Run{Task: x, Demand: d, Part: part, Left: left})
					asked(api.Run{Task: x, Demand: d, Part: part, Left: left, Struck: true, Fails: part})
				}
			}
		}
	}
	asked(api.Run{})
	asked(api.Run{Left: 1})
	asked(api.Run{Left: 1, Struck: true, Fails: math.MaxInt})
}

func TestRunsOfTasksThatAreNotRightDoNotPanic(t *testing.T) { // P1
	r := rand.New(rand.NewSource(159))
	odd := append([]int{1, 1, 2, 3, 5, 1000, farthest}, far...)
	pick := func() int { return odd[r.Intn(len(odd))] }
	for range 200000 {
		x := api.Task{T: pick(), D: pick(), C: pick(), A: pick(), Seg: pick(), Cost: pick(), M: pick(), K: pick(), Mode: r.Intn(5), Prio: pick()}
		asked(api.Run{Task: x, Demand: pick(), Part: pick(), Left: 1 + r.Intn(2), Struck: r.Intn(2) == 0, Fails: pick()})
		asked(api.Run{Task: x, Demand: pick(), Part: r.Intn(3), Left: pick(), Struck: r.Intn(2) == 0})
		if run, e := Begin(x, pick()); e == api.OK {
			asked(run)
		}
	}
}

func TestEachNumberAloneThatIsNotRight(t *testing.T) { // P1
	for _, mode := range modes {
		for _, n := range far {
			for i := range 10 {
				x := made(t, mode, 5, 2, 2, 1)
				*[]*int{&x.T, &x.D, &x.C, &x.A, &x.Seg, &x.Cost, &x.M, &x.K, &x.Mode, &x.Prio}[i] = n
				for d := range 8 {
					run, e := Begin(x, d)
					if e != api.OK && run != (api.Run{}) || e == api.OK && run.Left < 1 {
						t.Fatalf("Begin(%+v, %d): %+v, %d", x, d, run, e)
					}
					asked(run)
				}
			}
		}
	}
}

func TestWithNoTickLeftThereIsNoTick(t *testing.T) { // P1
	for _, mode := range modes {
		_, r := read(t, made(t, mode, 5, 2, 2, 1), 5, "--------")
		for _, left := range []int{0, -1, math.MinInt} {
			r.Left = left
			if n := Rest(r); n != 0 {
				t.Errorf("Rest(%+v): %d", r, n)
			}
			for _, struck := range []bool{false, true} {
				if next, event := Step(r, struck); next != (api.Run{}) || event != api.Runs {
					t.Errorf("Step(%+v, %v): %+v, %d", r, struck, next, event)
				}
			}
		}
	}
}
