package task

import (
	"fmt"
	"math"
	"math/rand"
	"regexp"
	"runtime"
	"slices"
	"strings"
	"testing"

	"pendulum/api"
)

// taskOf is a right task of a mode, that stands off all limits.
func taskOf(mode int, name string, prio int) api.Task {
	t := api.Task{Name: name, T: 100, D: 90, C: 10, Cost: 3, M: 2, K: 4, Mode: mode, Prio: prio}
	if mode == api.Retry {
		t.Seg = 4
	} else {
		t.A = 20
	}
	return t
}

// setOf is a right set of so many tasks, of all modes in turn from first on, whose priorities neither rise nor fall.
func setOf(n, first int) api.Set {
	s := api.Set{Burst: 5}
	for i := range n {
		s.Tasks = append(s.Tasks, taskOf((i+first)%3+1, fmt.Sprintf("t_%d", i), 10+i*7%17))
	}
	return s
}

// alone is a right set of one task that a function changed.
func alone(mode int, change func(t *api.Task)) api.Set {
	t := taskOf(mode, "pump", 7)
	change(&t)
	return api.Set{Burst: 5, Tasks: []api.Task{t}}
}

// short is a beginning of tasks, to be told where a test fails.
func short(l []api.Task) string {
	text := fmt.Sprintf("%d tasks: %#v", len(l), l[:min(len(l), 3)])
	return text[:min(len(text), 600)]
}

// is holds what Why and Right say of a set.
func is(t *testing.T, what string, s api.Set, why, at int) {
	t.Helper()
	if w, a := Why(s); w != why || a != at {
		t.Fatalf("%s: Why: %d, %d; want %d, %d; burst %d, %s", what, w, a, why, at, s.Burst, short(s.Tasks))
	}
	if got, want := Right(s), why == api.Fine; got != want {
		t.Fatalf("%s: Right: %v; want %v; burst %d, %s", what, got, want, s.Burst, short(s.Tasks))
	}
}

func isRight(t *testing.T, what string, s api.Set) {
	t.Helper()
	is(t, what, s, api.Fine, -1)
}

// spoil is a change of the task at a place, for one reason; of these modes alone (nil: of all).
type spoil struct {
	what  string
	why   int
	modes []int
	do    func(s *api.Set, at int)
}

// ofTask is a spoil that looks at the task alone.
func ofTask(what string, why int, modes []int, do func(t *api.Task)) spoil {
	return spoil{what, why, modes, func(s *api.Set, at int) { do(&s.Tasks[at]) }}
}

func (x spoil) fits(t api.Task) bool {
	return x.modes == nil || slices.Contains(x.modes, t.Mode)
}

// names are spoils of a task's name.
func names() []spoil {
	var l []spoil
	for _, name := range []string{"", "A", "aB", "1a", "_a", "a b", "a-b", " a", "a\n", "ä", "a\x00", "\xff", "abcdefghijklm", strings.Repeat("a", 1<<10)} {
		l = append(l, ofTask(fmt.Sprintf("name %q", name), api.BadName, nil, func(t *api.Task) { t.Name = name }))
	}
	return l
}

// times are spoils of a task's times, which leave what its mode asks of A and Seg as it was where they can.
func times() []spoil {
	var l []spoil
	add := func(what string, do func(t *api.Task)) {
		l = append(l, ofTask(what, api.BadTimes, nil, do))
	}
	for _, n := range []int{0, -1, -10, math.MinInt} {
		add(fmt.Sprintf("C %d", n), func(t *api.Task) { t.C = n })
		add(fmt.Sprintf("D %d", n), func(t *api.Task) { t.D = n })
		add(fmt.Sprintf("T %d", n), func(t *api.Task) { t.T = n })
		add(fmt.Sprintf("C, D %d", n), func(t *api.Task) { t.C, t.D = n, n })
		add(fmt.Sprintf("C, D, T %d", n), func(t *api.Task) { t.C, t.D, t.T = n, n, n })
	}
	for _, n := range []int{api.MaxTime + 1, api.MaxTime << 1, 1 << 32, 1<<32 + 95, math.MaxInt} {
		add(fmt.Sprintf("C %d", n), func(t *api.Task) { t.C = n })
		add(fmt.Sprintf("D %d", n), func(t *api.Task) { t.D = n })
		add(fmt.Sprintf("T %d", n), func(t *api.Task) { t.T = n })
		add(fmt.Sprintf("D, T %d", n), func(t *api.Task) { t.D, t.T = n, n })
		add(fmt.Sprintf("C, D, T %d", n), func(t *api.Task) { t.C, t.D, t.T = n, n, n })
	}
	for _, n := range []int{-1, -2, math.MinInt, api.MaxCost + 1, api.MaxCost + 2, 1 << 32, math.MaxInt} {
		add(fmt.Sprintf("Cost %d", n), func(t *api.Task) { t.Cost = n })
	}
	add("C above D", func(t *api.Task) { t.C = t.D + 1 })
	add("D above T", func(t *api.Task) { t.D = t.T + 1 })
	add("T below D", func(t *api.Task) { t.T = t.D - 1 })
	add("T below C", func(t *api.Task) { t.T = t.C - 1 })
	return l
}

// modes are spoils of a task's mode, and of what it asks.
func modes() []spoil {
	var l []spoil
	for _, n := range []int{0, -1, -2, -3, 4, 5, 1 << 32, 1<<32 + 1, math.MinInt, math.MaxInt} {
		l = append(l, ofTask(fmt.Sprintf("mode %d", n), api.BadMode, nil, func(t *api.Task) { t.Mode = n }))
	}
	retry, other := []int{api.Retry}, []int{api.Block, api.Backup}
	for _, n := range []int{0, -1, 1 << 32, math.MinInt, math.MaxInt} {
		l = append(l, ofTask(fmt.Sprintf("Seg %d", n), api.BadMode, retry, func(t *api.Task) { t.Seg = n }))
		l = append(l, ofTask(fmt.Sprintf("A %d", n), api.BadMode, other, func(t *api.Task) { t.A = n }))
	}
	for _, n := range []int{1, -1, 1 << 32, math.MinInt, math.MaxInt} {
		l = append(l, ofTask(fmt.Sprintf("A %d", n), api.BadMode, retry, func(t *api.Task) { t.A = n }))
		l = append(l, ofTask(fmt.Sprintf("Seg %d", n), api.BadMode, other, func(t *api.Task) { t.Seg = n }))
	}
	return append(l,
		ofTask("Seg above C", api.BadMode, retry, func(t *api.Task) { t.Seg = t.C + 1 }),
		ofTask("A above D", api.BadMode, other, func(t *api.Task) { t.A = t.D + 1 }),
		ofTask("retry's to another mode", api.BadMode, retry, func(t *api.Task) { t.Mode = api.Block }),
		ofTask("another's to retry", api.BadMode, other, func(t *api.Task) { t.Mode = api.Retry }))
}

// firms are spoils of a task's M and K.
func firms() []spoil {
	var l []spoil
	add := func(m, k int) {
		l = append(l, ofTask(fmt.Sprintf("M %d, K %d", m, k), api.BadFirm, nil, func(t *api.Task) { t.M, t.K = m, k }))
	}
	for _, n := range []int{0, -1, math.MinInt} {
		add(n, 1)
		add(n, 64)
		add(n, n)
		add(1, n)
		add(64, n)
	}
	for _, n := range []int{65, 66, 128, 1 << 32, 1<<32 + 1, math.MaxInt} {
		add(1, n)
		add(64, n)
		add(n, n)
		add(n, 64)
	}
	add(2, 1)
	add(64, 63)
	add(-1, 0)
	return l
}

// prios are spoils of a task's priority.
func prios() []spoil {
	var l []spoil
	for _, n := range []int{-1, -2, math.MinInt, api.MaxPrio + 1, api.MaxPrio + 2, 1 << 32, 1<<32 + 1, math.MaxInt} {
		l = append(l, ofTask(fmt.Sprintf("Prio %d", n), api.BadPrio, nil, func(t *api.Task) { t.Prio = n }))
	}
	return l
}

// repeats are spoils by what an earlier task has: none fits the first one.
func repeats() []spoil {
	return []spoil{
		{"the first one's name", api.BadName, nil, func(s *api.Set, at int) { s.Tasks[at].Name = s.Tasks[0].Name }},
		{"the one's ahead of it, as a name", api.BadName, nil, func(s *api.Set, at int) { s.Tasks[at].Name = s.Tasks[at-1].Name }},
		{"the first one's priority", api.BadPrio, nil, func(s *api.Set, at int) { s.Tasks[at].Prio = s.Tasks[0].Prio }},
		{"the one's ahead of it, as a priority", api.BadPrio, nil, func(s *api.Set, at int) { s.Tasks[at].Prio = s.Tasks[at-1].Prio }},
	}
}

// spoils are all that fit the task at a place.
func spoils(s api.Set, at int) []spoil {
	l := slices.Concat(names(), times(), modes(), firms(), prios())
	if at > 0 {
		l = append(l, repeats()...)
	}
	return slices.DeleteFunc(l, func(x spoil) bool { return !x.fits(s.Tasks[at]) })
}

// few are some spoils of each reason that fit the task at a place.
func few(s api.Set, at int) []spoil {
	var l []spoil
	count := map[int]int{}
	for i, x := range spoils(s, at) {
		if i%5 == 0 || count[x.why] == 0 {
			count[x.why]++
			l = append(l, x)
		}
	}
	return l
}

func TestRightSets(t *testing.T) { // P5.1
	for _, mode := range []int{api.Retry, api.Block, api.Backup} {
		isRight(t, "one task", alone(mode, func(*api.Task) {}))
		s := api.Set{Burst: 1}
		for i := range api.MaxTasks {
			s.Tasks = append(s.Tasks, taskOf(mode, string(rune('a'+i)), api.MaxPrio-i))
			isRight(t, "of one mode", s)
		}
	}
	for n := 1; n <= api.MaxTasks; n++ {
		for first := range 3 {
			isRight(t, "of all modes", setOf(n, first))
		}
	}
}

func TestEdgesThatAreRight(t *testing.T) { // P5.1
	all := []int{api.Retry, api.Block, api.Backup}
	retry, other := all[:1], all[1:]
	for _, x := range []struct {
		what   string
		modes  []int
		change func(t *api.Task)
	}{
		{"C 1", other, func(t *api.Task) { t.C = 1 }},
		{"C 1, Seg 1", retry, func(t *api.Task) { t.C, t.Seg = 1, 1 }},
		{"C is D", all, func(t *api.Task) { t.C = t.D }},
		{"D is C", other, func(t *api.Task) { t.D, t.A = t.C, t.C }},
		{"D is T", all, func(t *api.Task) { t.D = t.T }},
		{"T is D", all, func(t *api.Task) { t.T = t.D }},
		{"all times 1", retry, func(t *api.Task) { t.C, t.D, t.T, t.Seg = 1, 1, 1, 1 }},
		{"all times 1", other, func(t *api.Task) { t.C, t.D, t.T, t.A = 1, 1, 1, 1 }},
		{"T the greatest", all, func(t *api.Task) { t.T = 1 << 20 }},
		{"D the greatest", all, func(t *api.Task) { t.T, t.D = 1<<20, 1<<20 }},
		{"C the greatest", all, func(t *api.Task) { t.T, t.D, t.C = 1<<20, 1<<20, 1<<20 }},
		{"Seg the greatest", retry, func(t *api.Task) { t.T, t.D, t.C, t.Seg = 1<<20, 1<<20, 1<<20, 1<<20 }},
		{"A the greatest", other, func(t *api.Task) { t.T, t.D, t.A = 1<<20, 1<<20, 1<<20 }},
		{"T one below the greatest", all, func(t *api.Task) { t.T = 1<<20 - 1 }},
		{"Cost 0", all, func(t *api.Task) { t.Cost = 0 }},
		{"Cost 1", all, func(t *api.Task) { t.Cost = 1 }},
		{"Cost 999", all, func(t *api.Task) { t.Cost = 999 }},
		{"Cost 1000, above C, D and T", all, func(t *api.Task) { t.Cost = 1000 }},
		{"Seg 1", retry, func(t *api.Task) { t.Seg = 1 }},
		{"Seg is C", retry, func(t *api.Task) { t.Seg = t.C }},
		{"Seg is C less 1", retry, func(t *api.Task) { t.Seg = t.C - 1 }},
		{"A 1", other, func(t *api.Task) { t.A = 1 }},
		{"A is C", other, func(t *api.Task) { t.A = t.C }},
		{"A is D", other, func(t *api.Task) { t.A = t.D }},
		{"A is D less 1", other, func(t *api.Task) { t.A = t.D - 1 }},
		{"(1,1)", all, func(t *api.Task) { t.M, t.K = 1, 1 }},
		{"(1,2)", all, func(t *api.Task) { t.M, t.K = 1, 2 }},
		{"(1,64)", all, func(t *api.Task) { t.M, t.K = 1, 64 }},
		{"(63,64)", all, func(t *api.Task) { t.M, t.K = 63, 64 }},
		{"(64,64)", all, func(t *api.Task) { t.M, t.K = 64, 64 }},
		{"Prio 0", all, func(t *api.Task) { t.Prio = 0 }},
		{"Prio 1", all, func(t *api.Task) { t.Prio = 1 }},
		{"Prio 254", all, func(t *api.Task) { t.Prio = 254 }},
		{"Prio 255", all, func(t *api.Task) { t.Prio = 255 }},
		{"a name of one byte", all, func(t *api.Task) { t.Name = "z" }},
		{"a name of twelve bytes", all, func(t *api.Task) { t.Name = "a_0123456789" }},
	} {
		for _, mode := range x.modes {
			isRight(t, x.what, alone(mode, x.change))
		}
	}
}

func TestEdgesOfBurstAndCount(t *testing.T) { // P5.1, the chapter's example
	for _, n := range []int{1, 2, 999, 1000} {
		s := setOf(3, 0)
		s.Burst = n
		isRight(t, "burst", s)
	}
	for _, n := range []int{0, -1, -1000, 1001, 1002, 1 << 32, 1<<32 + 1, math.MinInt, math.MaxInt} {
		for _, tasks := range [][]api.Task{setOf(3, 0).Tasks, setOf(16, 0).Tasks, setOf(17, 0).Tasks, nil, {}, {{}}} {
			is(t, "burst", api.Set{Burst: n, Tasks: tasks}, api.BadBurst, -1)
		}
	}
	is(t, "no tasks", api.Set{Burst: 1}, api.BadCount, -1)
	is(t, "no tasks", api.Set{Burst: 1, Tasks: []api.Task{}}, api.BadCount, -1)
	is(t, "nothing", api.Set{}, api.BadBurst, -1)
	for _, n := range []int{17, 18, 32, 256, 257, 1 << 16} {
		is(t, "too many", setOf(n, 0), api.BadCount, -1)
		is(t, "too many, and wrong", api.Set{Burst: 1000, Tasks: make([]api.Task, n)}, api.BadCount, -1)
	}
	is(t, "one that is wrong", api.Set{Burst: 1, Tasks: make([]api.Task, 1)}, api.BadName, 0)
	is(t, "sixteen that are wrong", api.Set{Burst: 1, Tasks: make([]api.Task, 16)}, api.BadName, 0)
}

func TestEachReasonByItself(t *testing.T) { // P5.1
	for _, n := range []int{1, 2, 3, 7, api.MaxTasks} {
		for first := range 3 {
			for _, at := range []int{0, n / 2, n - 1} {
				for _, x := range spoils(setOf(n, first), at) {
					s := setOf(n, first)
					x.do(&s, at)
					is(t, x.what, s, x.why, at)
				}
			}
		}
	}
}

func TestTwoReasonsAtOneTask(t *testing.T) { // P5.1
	for first := range 3 {
		for at := range 3 {
			l := spoils(setOf(3, first), at)
			for _, x := range l {
				for _, y := range l {
					if x.why >= y.why {
						continue
					}
					s := setOf(3, first)
					y.do(&s, at)
					x.do(&s, at)
					is(t, x.what+" and "+y.what, s, x.why, at)
				}
			}
		}
	}
}

func TestTwoReasonsAtTwoTasks(t *testing.T) { // P5.1
	for first := range 3 {
		for later := 1; later < 3; later++ {
			for at := range later {
				for _, x := range few(setOf(3, first), at) {
					for _, y := range few(setOf(3, first), later) {
						s := setOf(3, first)
						y.do(&s, later)
						x.do(&s, at)
						is(t, x.what+", then "+y.what, s, x.why, at)
					}
				}
			}
		}
	}
}

func TestWhatTwoTasksShareIsToldAtTheLater(t *testing.T) { // P5.1
	for a := range api.MaxTasks {
		for b := range a {
			s := setOf(api.MaxTasks, 0)
			s.Tasks[a].Name = s.Tasks[b].Name
			is(t, "a name twice", s, api.BadName, a)
			s.Tasks[a].Prio = s.Tasks[b].Prio
			is(t, "a name and a priority twice", s, api.BadName, a)
			s.Tasks[a].Name = "other"
			is(t, "a priority twice", s, api.BadPrio, a)
		}
	}
	s := setOf(4, 0)
	s.Tasks[1].Prio, s.Tasks[3].Name = s.Tasks[0].Prio, s.Tasks[0].Name
	is(t, "a priority, then a name", s, api.BadPrio, 1)
}

var name = regexp.MustCompile(`\A[a-z][a-z0-9_]{0,11}\z`)

// plain reads a set as the chapter tells it: it gathers all that is so, and answers the first.
func plain(s api.Set) (int, int) {
	if s.Burst < 1 || s.Burst > 1000 {
		return 1, -1
	}
	if len(s.Tasks) == 0 || len(s.Tasks) > 16 {
		return 2, -1
	}
	seenName, seenPrio := map[string]bool{}, map[int]bool{}
	for at, t := range s.Tasks {
		var l []int
		if !name.MatchString(t.Name) || seenName[t.Name] {
			l = append(l, 3)
		}
		if !slices.IsSorted([]int{1, t.C, t.D, t.T, 1 << 20}) || !slices.IsSorted([]int{0, t.Cost, 1000}) {
			l = append(l, 4)
		}
		if m := t.Mode; m < 1 || m > 3 || m == 1 && (t.Seg < 1 || t.Seg > t.C || t.A != 0) || m != 1 && (t.A < 1 || t.A > t.D || t.Seg != 0) {
			l = append(l, 5)
		}
		if !slices.IsSorted([]int{1, t.M, t.K, 64}) {
			l = append(l, 6)
		}
		if t.Prio < 0 || t.Prio > 255 || seenPrio[t.Prio] {
			l = append(l, 7)
		}
		if len(l) > 0 {
			return slices.Min(l), at
		}
		seenName[t.Name], seenPrio[t.Prio] = true, true
	}
	return 0, -1
}

// asPlain holds Why against the plain reading.
func asPlain(t *testing.T, s api.Set) int {
	t.Helper()
	why, at := plain(s)
	is(t, "as plain", s, why, at)
	return why
}

// fields are a task's numbers.
func fields(t *api.Task) []*int {
	return []*int{&t.T, &t.D, &t.C, &t.A, &t.Seg, &t.Cost, &t.M, &t.K, &t.Mode, &t.Prio}
}

// edges are numbers at and about all limits, and far off them.
func edges() []int {
	l := []int{math.MinInt, math.MinInt32, math.MaxInt32, 1 << 32, 1 << 40, math.MaxInt}
	for _, n := range []int{-1, 1, 4, 10, 20, 64, 90, 100, 255, 1000, 1 << 20} {
		l = append(l, n-1, n, n+1)
	}
	return l
}

func TestEachNumberAtEachEdge(t *testing.T) { // P5.1
	for first := range 3 {
		for at := range 3 {
			for i := range fields(&api.Task{}) {
				for j := range i + 1 {
					for _, n := range edges() {
						for _, m := range edges() {
							s := setOf(3, first)
							*fields(&s.Tasks[at])[i] = n
							*fields(&s.Tasks[at])[j] = m
							asPlain(t, s)
						}
					}
				}
			}
		}
	}
}

func TestMixedSets(t *testing.T) { // P5.1, P5.3
	r := rand.New(rand.NewSource(5))
	values, count := edges(), map[int]int{}
	for range 100000 {
		s := setOf(r.Intn(18), r.Intn(3))
		if r.Intn(20) == 0 {
			s.Burst = values[r.Intn(len(values))]
		}
		for range r.Intn(4) {
			if len(s.Tasks) == 0 {
				break
			}
			x := &s.Tasks[r.Intn(len(s.Tasks))]
			switch i := r.Intn(12); i {
			case 0:
				x.Name = s.Tasks[r.Intn(len(s.Tasks))].Name
			case 1:
				x.Name = []string{"a", "", "B", "z_9", "t_0", "t_1"}[r.Intn(6)]
			default:
				*fields(x)[i-2] = values[r.Intn(len(values))]
			}
		}
		why := asPlain(t, s)
		count[why]++
		if why == api.Fine {
			beginnings(t, s)
		}
	}
	for why := api.Fine; why <= api.BadPrio; why++ {
		if count[why] < 100 {
			t.Errorf("%d sets of reason %d", count[why], why)
		}
	}
}

// beginnings holds that each part of a right set's tasks, from the first on, is right.
func beginnings(t *testing.T, s api.Set) {
	t.Helper()
	for n := 1; n <= len(s.Tasks); n++ {
		isRight(t, "a beginning", api.Set{Burst: s.Burst, Tasks: s.Tasks[:n]})
	}
}

func TestBeginnings(t *testing.T) { // P5.3
	for n := 1; n <= api.MaxTasks; n++ {
		for first := range 3 {
			beginnings(t, setOf(n, first))
		}
	}
	// What is wrong is so from its task on, and not ahead of it.
	for at := range 5 {
		for _, x := range spoils(setOf(5, 0), at) {
			s := setOf(5, 0)
			x.do(&s, at)
			beginnings(t, api.Set{Burst: s.Burst, Tasks: s.Tasks[:at]})
			for n := at + 1; n <= 5; n++ {
				is(t, x.what, api.Set{Burst: s.Burst, Tasks: s.Tasks[:n]}, x.why, at)
			}
		}
	}
}

// prioritized is a right set whose tasks have these priorities.
func prioritized(prios ...int) api.Set {
	s := setOf(len(prios), 1)
	for i, p := range prios {
		s.Tasks[i].Prio = p
	}
	return s
}

// stands holds that Order answers each place once, by priority.
func stands(t *testing.T, s api.Set) {
	t.Helper()
	isRight(t, "to be ordered", s)
	l := Order(s)
	var want []int
	for at := range s.Tasks {
		want = append(want, at)
	}
	if !slices.Equal(slices.Sorted(slices.Values(l)), want) {
		t.Fatalf("Order: %v; want each of %v once", l, want)
	}
	for i := 1; i < len(l); i++ {
		if s.Tasks[l[i-1]].Prio >= s.Tasks[l[i]].Prio {
			t.Fatalf("Order: %v of %+v", l, s)
		}
	}
}

func TestOrder(t *testing.T) { // P5.2
	for _, x := range []struct{ prios, want []int }{
		{[]int{0}, []int{0}},
		{[]int{255}, []int{0}},
		{[]int{0, 1}, []int{0, 1}},
		{[]int{1, 0}, []int{1, 0}},
		{[]int{3, 7, 9, 200}, []int{0, 1, 2, 3}},
		{[]int{200, 9, 7, 3}, []int{3, 2, 1, 0}},
		{[]int{9, 0, 255}, []int{1, 0, 2}},
		{[]int{20, 100, 3}, []int{2, 0, 1}},
		{[]int{255, 128, 127, 0, 129}, []int{3, 2, 1, 4, 0}},
	} {
		s := prioritized(x.prios...)
		stands(t, s)
		if l := Order(s); !slices.Equal(l, x.want) {
			t.Errorf("Order of %v: %v; want %v", x.prios, l, x.want)
		}
	}
}

func TestOrderOfEachOrder(t *testing.T) { // P5.2
	var lay func(done, left []int)
	lay = func(done, left []int) {
		if len(left) == 0 {
			stands(t, prioritized(done...))
		}
		for i, p := range left {
			lay(append(slices.Clone(done), p), slices.Delete(slices.Clone(left), i, i+1))
		}
	}
	for n := 1; n <= 6; n++ {
		lay(nil, []int{0, 255, 9, 10, 100, 2}[:n])
	}
	r := rand.New(rand.NewSource(6))
	for n := 1; n <= api.MaxTasks; n++ {
		for range 200 {
			stands(t, prioritized(r.Perm(256)[:n]...))
		}
	}
}

func TestOrderHangsOnPrioritiesAlone(t *testing.T) { // P5.2
	s := prioritized(5, 1, 3)
	for i := range s.Tasks {
		s.Tasks[i].Name = []string{"a", "c", "b"}[i]
		s.Tasks[i].T, s.Tasks[i].M = 1000*(3-i), i+1
	}
	if l := Order(s); !slices.Equal(l, []int{1, 2, 0}) {
		t.Errorf("Order: %v", l)
	}
}

func TestHard(t *testing.T) { // P5.2
	for m := -1; m <= 66; m++ {
		for k := -1; k <= 66; k++ {
			for mode := 1; mode <= 3; mode++ {
				x := taskOf(mode, "a", 0)
				x.M, x.K = m, k
				if Hard(x) != (m == k) {
					t.Fatalf("Hard of (%d,%d): %v", m, k, Hard(x))
				}
			}
		}
	}
}

// like tells whether two sets are the same, where no tasks and nil are one.
func like(a, b api.Set) bool {
	return a.Burst == b.Burst && slices.Equal(a.Tasks, b.Tasks)
}

// manySets are right and wrong sets.
func manySets() []api.Set {
	l := []api.Set{{}, {Burst: 3}, {Burst: -1, Tasks: []api.Task{}}, {Tasks: make([]api.Task, 20)}}
	for n := 1; n <= 17; n++ {
		l = append(l, setOf(n, n%3))
	}
	for _, x := range spoils(setOf(3, 0), 1) {
		s := setOf(3, 0)
		x.do(&s, 1)
		l = append(l, s)
	}
	return l
}

func TestCopy(t *testing.T) { // P5.2
	// Each field has a value of its own, so that none is left, nor stands for another.
	s := api.Set{Burst: 77, Tasks: []api.Task{
		{Name: "one", T: 1, D: 2, C: 3, A: 4, Seg: 5, Cost: 6, M: 7, K: 8, Mode: 9, Prio: 10},
		{Name: "two", T: 11, D: 12, C: 13, A: 14, Seg: 15, Cost: 16, M: 17, K: 18, Mode: 19, Prio: 20},
	}}
	if c := Copy(s); !like(c, s) {
		t.Errorf("Copy: %+v; want %+v", c, s)
	}
	for _, s := range manySets() {
		c := Copy(s)
		if !like(c, s) {
			t.Fatalf("Copy: %s; want %s", short(c.Tasks), short(s.Tasks))
		}
		why, at := Why(s)
		is(t, "a copy", c, why, at)
	}
}

func TestCopyHoldsNoLongText(t *testing.T) { // P5.4
	const long = 64 << 20
	text := strings.Repeat("ab", long/2)
	s := setOf(2, 0)
	s.Tasks[0].Name, s.Tasks[1].Name = text[:12], text[long-11:]
	c := Copy(s)
	s, text = api.Set{}, ""
	runtime.GC()
	var m runtime.MemStats
	runtime.ReadMemStats(&m)
	if m.HeapAlloc > long/2 {
		t.Errorf("%d bytes are held", m.HeapAlloc)
	}
	if c.Tasks[0].Name != "abababababab" || c.Tasks[1].Name != "bababababab" {
		t.Errorf("Copy: %+v", c)
	}
	runtime.KeepAlive(c)
}

func TestWhatIsHandedInStays(t *testing.T) { // P5.4
	for _, s := range append(manySets(), prioritized(9, 8, 7, 1, 2, 3), prioritized(255, 0)) {
		// Room behind the tasks, to see that nothing is written there either.
		whole := append(slices.Clone(s.Tasks), taskOf(api.Block, "behind", 0), taskOf(api.Retry, "it", 1))
		was := slices.Clone(whole)
		in := api.Set{Burst: s.Burst, Tasks: whole[:len(s.Tasks)]}
		Why(in)
		Right(in)
		Order(in)
		c := Copy(in)
		_ = append(c.Tasks, api.Task{Name: "x"})
		for _, x := range in.Tasks {
			Hard(x)
		}
		if in.Burst != s.Burst || !slices.Equal(whole, was) {
			t.Fatalf("%s was made %s", short(was), short(whole))
		}
	}
}

func TestOrdersAreNewMemory(t *testing.T) { // P5.4
	s := prioritized(4, 2, 3, 1)
	first, second := Order(s), Order(s)
	for i := range first[:cap(first)] {
		first[:cap(first)][i] = 99
	}
	if want := []int{3, 1, 2, 0}; !slices.Equal(second, want) || !slices.Equal(Order(s), want) {
		t.Errorf("an answer was changed, and another with it: %v, %v", second, Order(s))
	}
	s.Tasks[0].Prio, s.Tasks[3].Prio = 1, 4
	if !slices.Equal(second, []int{3, 1, 2, 0}) || !slices.Equal(Order(s), []int{0, 1, 2, 3}) {
		t.Errorf("the set was changed: %v, %v", second, Order(s))
	}
}

func TestCopiesAreNewMemory(t *testing.T) { // P5.4
	for n := 1; n <= api.MaxTasks; n++ {
		s, want := setOf(n, 0), setOf(n, 0)
		first, second := Copy(s), Copy(s)
		clear(first.Tasks[:cap(first.Tasks)])
		first.Burst = 0
		if !like(s, want) || !like(second, want) {
			t.Fatalf("a copy was changed, and more with it: %+v, %+v", s, second)
		}
		clear(s.Tasks)
		s.Burst = 0
		if !like(second, want) {
			t.Fatalf("a set was changed, and its copy with it: %+v", second)
		}
	}
}

func TestAnswersHangOnArgumentsAlone(t *testing.T) { // P5.1, P5.2
	wrong, right := setOf(3, 0), setOf(3, 0)
	wrong.Tasks[2].Name = ""
	for range 3 {
		is(t, "wrong", wrong, api.BadName, 2)
		isRight(t, "right", right)
		is(t, "the same names and priorities once more", Copy(right), api.Fine, -1)
		stands(t, right)
	}
}

func TestWrongSetsDoNotPanic(t *testing.T) { // P1, LANGUAGE.md, rule 4
	for _, s := range append(manySets(), api.Set{Burst: 1, Tasks: make([]api.Task, 1<<16)}) {
		if l := Order(s); len(l) != len(s.Tasks) {
			t.Errorf("Order: %d places of %d tasks", len(l), len(s.Tasks))
		}
		Copy(s)
		for _, x := range s.Tasks {
			Hard(x)
		}
	}
}

func TestTableOfQuestions(t *testing.T) { // the chapter's section 'Ways'
	var whys []int
	for _, q := range questions() {
		if q.bad == nil {
			t.Fatalf("reason %d has no function", q.why)
		}
		whys = append(whys, q.why)
		// Each by itself says yes of its own spoils, and no of a right task.
		for at := range 3 {
			s := setOf(3, at)
			if q.bad(s.Tasks[at], s.Tasks[:at]) {
				t.Errorf("reason %d of a right task", q.why)
			}
			for _, x := range spoils(s, at) {
				s := setOf(3, at)
				x.do(&s, at)
				if x.why == q.why && !q.bad(s.Tasks[at], s.Tasks[:at]) {
					t.Errorf("reason %d is not seen: %s", q.why, x.what)
				}
			}
		}
	}
	if !slices.Equal(whys, []int{api.BadName, api.BadTimes, api.BadMode, api.BadFirm, api.BadPrio}) {
		t.Errorf("reasons: %v", whys)
	}
}
