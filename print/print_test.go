package print

import (
	"fmt"
	"math"
	"math/rand"
	"regexp"
	"slices"
	"strconv"
	"strings"
	"sync"
	"testing"

	"pendulum/api"
	"pendulum/parse"
	"pendulum/task"
)

var modes = []int{api.Retry, api.Block, api.Backup}

// taskOf is a right task of a mode, of which no two numbers are the same, but what must be 0, so that none stands for another.
func taskOf(mode, i int) api.Task {
	t := api.Task{Name: fmt.Sprintf("t_%d", i), T: 900 + i, D: 800 - i, C: 100 + i, Cost: 300 + i, M: 2 + i, K: 40 + i, Mode: mode, Prio: 60 + i*7%17}
	if mode == api.Retry {
		t.Seg = 20 + i
	} else {
		t.A = 700 + i
	}
	return t
}

// setOf is a right set of so many tasks, of all modes in turn from first on.
func setOf(n, first int) api.Set {
	s := api.Set{Burst: 11 + n}
	for i := range n {
		s.Tasks = append(s.Tasks, taskOf((i+first)%3+1, i))
	}
	return s
}

func wordOf(mode int) string {
	if mode < 1 || mode > 3 {
		return "none"
	}
	return []string{"retry", "block", "backup"}[mode-1]
}

// plainTask is a task's line, made in one go: what Task is held against.
func plainTask(t api.Task) string {
	return fmt.Sprintf("task %s %d %d %d %s %d %d %d %d %d %d", t.Name, t.T, t.D, t.C, wordOf(t.Mode), t.A, t.Seg, t.Cost, t.M, t.K, t.Prio)
}

// plain is a set's text: what Set is held against.
func plain(s api.Set) string {
	text := fmt.Sprintf("burst %d\n", s.Burst)
	for _, t := range s.Tasks {
		text += plainTask(t) + "\n"
	}
	return text
}

// like tells whether two sets are the same, where no tasks and nil are one.
func like(a, b api.Set) bool {
	return a.Burst == b.Burst && slices.Equal(a.Tasks, b.Tasks)
}

// short is a beginning of a set, to be told where a test fails.
func short(s api.Set) string {
	text := fmt.Sprintf("burst %d, %d tasks: %#v", s.Burst, len(s.Tasks), s.Tasks[:min(len(s.Tasks), 3)])
	return text[:min(len(text), 700)]
}

// prints holds that a set has just this text, and that it is read as the set was.
func prints(t *testing.T, s api.Set, want string) {
	t.Helper()
	text, e := Set(s)
	if e != api.OK || text != want {
		t.Fatalf("Set(%s): %q, %d; want %q", short(s), text, e, want)
	}
	if read, spot := parse.Set([]byte(text)); spot != (api.Spot{}) || !like(read, s) {
		t.Fatalf("%q is read as %s, %v; was %s", text, short(read), spot, short(s))
	}
}

// refuses holds that a set has no text.
func refuses(t *testing.T, what string, s api.Set) {
	t.Helper()
	if text, e := Set(s); e != api.ErrArg || text != "" {
		t.Fatalf("%s: Set(%s): %q, %d; want none, ErrArg", what, short(s), text, e)
	}
}

// line holds that a task has just this line.
func line(t *testing.T, x api.Task, want string) {
	t.Helper()
	if got := Task(x); got != want {
		t.Fatalf("Task(%.300q): %.300q; want %.300q", fmt.Sprint(x), got, want)
	}
}

// numbers are a task's numbers, and the place of each in its line.
func numbers(t *api.Task) (places []*int, at []int) {
	return []*int{&t.T, &t.D, &t.C, &t.A, &t.Seg, &t.Cost, &t.M, &t.K, &t.Prio}, []int{2, 3, 4, 6, 7, 8, 9, 10, 11}
}

func TestOneTaskOfEachMode(t *testing.T) { // P7.1, the chapter's example
	prints(t, api.Set{Burst: 3, Tasks: []api.Task{{Name: "low", T: 100, D: 90, C: 10, Seg: 5, Cost: 1, M: 2, K: 3, Mode: api.Retry, Prio: 9}}},
		"burst 3\ntask low 100 90 10 retry 0 5 1 2 3 9\n")
	prints(t, api.Set{Burst: 1000, Tasks: []api.Task{{Name: "mid", T: 80, D: 70, C: 60, A: 50, Cost: 40, M: 30, K: 31, Mode: api.Block, Prio: 20}}},
		"burst 1000\ntask mid 80 70 60 block 50 0 40 30 31 20\n")
	prints(t, api.Set{Burst: 1, Tasks: []api.Task{{Name: "high", T: 50, D: 40, C: 5, A: 4, M: 1, K: 1, Mode: api.Backup}}},
		"burst 1\ntask high 50 40 5 backup 4 0 0 1 1 0\n")
}

func TestSomeTasks(t *testing.T) { // P7.1
	prints(t, api.Set{Burst: 2, Tasks: []api.Task{
		{Name: "c", T: 9, D: 8, C: 3, Seg: 2, Cost: 1, M: 1, K: 2, Mode: api.Retry, Prio: 5},
		{Name: "b", T: 19, D: 18, C: 13, A: 12, Cost: 6, M: 3, K: 4, Mode: api.Block, Prio: 7},
		{Name: "a", T: 29, D: 28, C: 23, A: 22, M: 1, K: 1, Mode: api.Backup, Prio: 6},
	}}, "burst 2\ntask c 9 8 3 retry 0 2 1 1 2 5\ntask b 19 18 13 block 12 0 6 3 4 7\ntask a 29 28 23 backup 22 0 0 1 1 6\n")
	for n := 1; n <= api.MaxTasks; n++ {
		for first := range modes {
			s := setOf(n, first)
			prints(t, s, plain(s))
			for i := range s.Tasks {
				s.Tasks[i] = taskOf(modes[first], i)
			}
			prints(t, s, plain(s))
		}
	}
}

// edges are changes of a task that stays right, at a limit of chapter 5; of these modes alone (nil: of all).
func edges() []change {
	retry, other := modes[:1], modes[1:]
	return []change{
		{"a name of one sign", nil, func(t *api.Task) { t.Name = "z" }},
		{"a name of twelve signs", nil, func(t *api.Task) { t.Name = "a_0123456789" }},
		{"a name that is burst", nil, func(t *api.Task) { t.Name = "burst" }},
		{"a name that is task", nil, func(t *api.Task) { t.Name = "task" }},
		{"a name that is a mode", nil, func(t *api.Task) { t.Name = "retry" }},
		{"a name that is none", nil, func(t *api.Task) { t.Name = "none" }},
		{"a name with zeros", nil, func(t *api.Task) { t.Name = "x007" }},
		{"T the greatest", nil, func(t *api.Task) { t.T = 1 << 20 }},
		{"T is D", nil, func(t *api.Task) { t.T = t.D }},
		{"C, D, T the greatest", nil, func(t *api.Task) { t.T, t.D, t.C = 1<<20, 1<<20, 1<<20 }},
		{"C is D", nil, func(t *api.Task) { t.C = t.D }},
		{"C 1", other, func(t *api.Task) { t.C = 1 }},
		{"all times 1", retry, func(t *api.Task) { t.T, t.D, t.C, t.Seg = 1, 1, 1, 1 }},
		{"all times 1", other, func(t *api.Task) { t.T, t.D, t.C, t.A = 1, 1, 1, 1 }},
		{"Cost 0", nil, func(t *api.Task) { t.Cost = 0 }},
		{"Cost the greatest", nil, func(t *api.Task) { t.Cost = 1000 }},
		{"Seg 1", retry, func(t *api.Task) { t.Seg = 1 }},
		{"Seg is C", retry, func(t *api.Task) { t.Seg = t.C }},
		{"Seg the greatest", retry, func(t *api.Task) { t.T, t.D, t.C, t.Seg = 1<<20, 1<<20, 1<<20, 1<<20 }},
		{"A 1", other, func(t *api.Task) { t.A = 1 }},
		{"A is D", other, func(t *api.Task) { t.A = t.D }},
		{"A the greatest", other, func(t *api.Task) { t.T, t.D, t.A = 1<<20, 1<<20, 1<<20 }},
		{"(1,1)", nil, func(t *api.Task) { t.M, t.K = 1, 1 }},
		{"(1,64)", nil, func(t *api.Task) { t.M, t.K = 1, 64 }},
		{"(64,64)", nil, func(t *api.Task) { t.M, t.K = 64, 64 }},
		{"Prio 0", nil, func(t *api.Task) { t.Prio = 0 }},
		{"Prio the greatest", nil, func(t *api.Task) { t.Prio = 255 }},
		{"all that may be 0", nil, func(t *api.Task) { t.Cost, t.Prio = 0, 0 }},
	}
}

// change is one of a task, of these modes alone (nil: of all).
type change struct {
	what  string
	modes []int
	do    func(t *api.Task)
}

// eachChange calls f with sets of which one task is changed: the first, a middle or the last.
func eachChange(changes []change, f func(what string, s api.Set, at int)) {
	for _, n := range []int{1, 3, api.MaxTasks} {
		for first := range modes {
			for _, at := range slices.Compact([]int{0, n / 2, n - 1}) {
				for _, x := range changes {
					s := setOf(n, first)
					if x.modes == nil || slices.Contains(x.modes, s.Tasks[at].Mode) {
						x.do(&s.Tasks[at])
						f(x.what, s, at)
					}
				}
			}
		}
	}
}

func TestEdgesThatAreRight(t *testing.T) { // P7.1, P7.2
	eachChange(edges(), func(what string, s api.Set, _ int) {
		prints(t, s, plain(s))
	})
	for _, n := range []int{1, 2, 9, 10, 99, 100, 999, 1000} {
		s := setOf(3, 1)
		s.Burst = n
		prints(t, s, plain(s))
	}
	prints(t, api.Set{Burst: 1000, Tasks: []api.Task{{Name: "abcdefghijkl", T: 1 << 20, D: 1 << 20, C: 1 << 20, Seg: 1 << 20, Cost: 1000, M: 64, K: 64, Mode: api.Retry, Prio: 255}}},
		"burst 1000\ntask abcdefghijkl 1048576 1048576 1048576 retry 0 1048576 1000 64 64 255\n")
	prints(t, api.Set{Burst: 1, Tasks: []api.Task{{Name: "a", T: 1, D: 1, C: 1, A: 1, M: 1, K: 1, Mode: api.Backup}}},
		"burst 1\ntask a 1 1 1 backup 1 0 0 1 1 0\n")
}

var form = regexp.MustCompile(`\Aburst N\n(task [a-z][a-z0-9_]* N N N (retry|block|backup) N N N N N N\n)+\z`)

func TestForm(t *testing.T) { // P7.1
	number := regexp.MustCompile(` (0|[1-9][0-9]*)\b`)
	look := func(what string, s api.Set, _ int) {
		text, _ := Set(s)
		if !form.MatchString(number.ReplaceAllString(text, " N")) {
			t.Fatalf("%s: %q", what, text)
		}
		if n := strings.Count(text, "\n"); n != len(s.Tasks)+1 {
			t.Fatalf("%s: %d lines of %d tasks", what, n, len(s.Tasks))
		}
	}
	eachChange(edges(), look)
	for n := 1; n <= api.MaxTasks; n++ {
		look("of so many", setOf(n, n%3), 0)
	}
}

func TestASetsLinesAreItsTasks(t *testing.T) { // P7.1
	for n := 1; n <= api.MaxTasks; n++ {
		s := setOf(n, n%3)
		text, _ := Set(s)
		lines := strings.Split(text, "\n")
		if len(lines) != n+2 || lines[0] != "burst "+strconv.Itoa(s.Burst) || lines[n+1] != "" {
			t.Fatalf("Set: %q", text)
		}
		for i, x := range s.Tasks {
			line(t, x, lines[i+1])
		}
	}
}

func TestTaskByHand(t *testing.T) { // P7.1
	line(t, api.Task{Name: "pump", T: 1, D: 2, C: 3, A: 4, Seg: 5, Cost: 6, M: 7, K: 8, Mode: api.Block, Prio: 10}, "task pump 1 2 3 block 4 5 6 7 8 10")
	line(t, api.Task{Name: "fan", T: 100, D: 90, C: 10, Seg: 5, Cost: 1, M: 1, K: 2, Mode: api.Retry, Prio: 9}, "task fan 100 90 10 retry 0 5 1 1 2 9")
	line(t, api.Task{Name: "x", T: -5}, "task x -5 0 0 none 0 0 0 0 0 0")
	line(t, api.Task{Name: "x", T: -1, D: -20, C: -300, A: -4, Seg: -5, Cost: -6, M: -7, K: -8, Mode: -9, Prio: -10}, "task x -1 -20 -300 none -4 -5 -6 -7 -8 -10")
	line(t, api.Task{Name: "x", T: math.MaxInt, Prio: math.MinInt, Mode: api.Backup}, "task x 9223372036854775807 0 0 backup 0 0 0 0 0 -9223372036854775808")
	line(t, api.Task{}, "task  0 0 0 none 0 0 0 0 0 0")
}

// values are numbers at and about the limits, and far off them.
func values() []int {
	l := []int{math.MinInt, math.MinInt + 1, math.MinInt32, math.MaxInt32, 1 << 32, 1<<32 + 1, 1 << 40, math.MaxInt - 1, math.MaxInt}
	for _, n := range []int{-100, -10, 0, 2, 4, 10, 64, 100, 255, 1000, 1 << 20} {
		l = append(l, n-1, n, n+1)
	}
	return l
}

func TestEachNumberInItsPlace(t *testing.T) { // P7.1
	for _, mode := range []int{0, api.Retry, api.Block, api.Backup, 4} {
		x := api.Task{Name: "pump", T: 11, D: 12, C: 13, A: 14, Seg: 15, Cost: 16, M: 17, K: 18, Mode: mode, Prio: 19}
		was := strings.Split(Task(x), " ")
		places, at := numbers(&x)
		for i, place := range places {
			old := *place
			for _, n := range values() {
				*place = n
				want := slices.Clone(was)
				want[at[i]] = strconv.Itoa(n)
				line(t, x, strings.Join(want, " "))
			}
			*place = old
		}
		if !slices.Equal(was, []string{"task", "pump", "11", "12", "13", wordOf(mode), "14", "15", "16", "17", "18", "19"}) {
			t.Fatalf("Task: %q", was)
		}
	}
}

func TestWhateverTasks(t *testing.T) { // P7.1, P1
	names := []string{"", " ", "a", "A b", "a\nb", "\n", "#", "ä", "\x00", "\xff\xfe", "%d%s", "007", "-1", "none", strings.Repeat("a", 13), strings.Repeat("long ", 1<<16)}
	l := values()
	r := rand.New(rand.NewSource(71))
	for range 20000 {
		x := api.Task{Name: names[r.Intn(len(names)-1)], Mode: l[r.Intn(len(l))]}
		places, _ := numbers(&x)
		for _, place := range places {
			*place = l[r.Intn(len(l))]
		}
		line(t, x, plainTask(x))
	}
	for _, name := range names {
		for mode := -1; mode <= 5; mode++ {
			x := taskOf(api.Retry, 3)
			x.Name, x.Mode = name, mode
			line(t, x, plainTask(x))
		}
	}
}

func TestTasksOfSetsThatAreNotRight(t *testing.T) { // P7.1
	eachChange(spoils(), func(_ string, s api.Set, at int) {
		line(t, s.Tasks[at], plainTask(s.Tasks[at]))
	})
}

func TestMode(t *testing.T) { // P7.1
	for mode, word := range map[int]string{api.Retry: "retry", api.Block: "block", api.Backup: "backup"} {
		if got := Mode(mode); got != word {
			t.Errorf("Mode(%d): %q; want %q", mode, got, word)
		}
		if got := parse.Mode(Mode(mode)); got != mode {
			t.Errorf("Mode(%d) is read as %d", mode, got)
		}
	}
	others := append(values(), 256+1, 256+2, 256+3, 1<<16+1, 1<<32+2, 1<<32+3, -1, -2, -3, math.MinInt+1, math.MinInt+2, math.MinInt+3)
	for n := -300; n <= 300; n++ {
		others = append(others, n)
	}
	for _, n := range others {
		if got := Mode(n); got != "none" && (n < 1 || n > 3) {
			t.Errorf("Mode(%d): %q", n, got)
		}
	}
	if parse.Mode(Mode(0)) != 0 {
		t.Error("the word none is read as a mode")
	}
}

// spoils are changes of a task for one reason of chapter 5 each.
func spoils() []change {
	retry, other := modes[:1], modes[1:]
	l := []change{
		{"C above D", nil, func(t *api.Task) { t.C = t.D + 1 }},
		{"D above T", nil, func(t *api.Task) { t.D = t.T + 1 }},
		{"T below D", nil, func(t *api.Task) { t.T = t.D - 1 }},
		{"T above the greatest", nil, func(t *api.Task) { t.T = 1<<20 + 1 }},
		{"Cost above the greatest", nil, func(t *api.Task) { t.Cost = 1001 }},
		{"mode 0", nil, func(t *api.Task) { t.Mode = 0 }},
		{"mode 4", nil, func(t *api.Task) { t.Mode = 4 }},
		{"Seg 0", retry, func(t *api.Task) { t.Seg = 0 }},
		{"Seg above C", retry, func(t *api.Task) { t.Seg = t.C + 1 }},
		{"A of Retry", retry, func(t *api.Task) { t.A = 1 }},
		{"A 0", other, func(t *api.Task) { t.A = 0 }},
		{"A above D", other, func(t *api.Task) { t.A = t.D + 1 }},
		{"Seg of another mode", other, func(t *api.Task) { t.Seg = 1 }},
		{"another mode", retry, func(t *api.Task) { t.Mode = api.Backup }},
		{"mode Retry", other, func(t *api.Task) { t.Mode = api.Retry }},
		{"M above K", nil, func(t *api.Task) { t.M = t.K + 1 }},
		{"K above the greatest", nil, func(t *api.Task) { t.K = 65 }},
		{"Prio above the greatest", nil, func(t *api.Task) { t.Prio = 256 }},
	}
	for _, name := range []string{"", "A", "1a", "_a", "a b", "a\n", "ä", "abcdefghijklm"} {
		l = append(l, change{"name " + name, nil, func(t *api.Task) { t.Name = name }})
	}
	for _, n := range []int{-1, math.MinInt} {
		l = append(l,
			change{"Cost", nil, func(t *api.Task) { t.Cost = n }},
			change{"mode", nil, func(t *api.Task) { t.Mode = n }},
			change{"Prio", nil, func(t *api.Task) { t.Prio = n }},
			change{"A", nil, func(t *api.Task) { t.A = n }},
			change{"Seg", nil, func(t *api.Task) { t.Seg = n }})
	}
	for _, n := range []int{0, -1, math.MinInt} {
		l = append(l,
			change{"C", nil, func(t *api.Task) { t.C = n }},
			change{"C, D", nil, func(t *api.Task) { t.C, t.D = n, n }},
			change{"C, D, T", nil, func(t *api.Task) { t.C, t.D, t.T = n, n, n }},
			change{"M", nil, func(t *api.Task) { t.M = n }},
			change{"M, K", nil, func(t *api.Task) { t.M, t.K = n, n }})
	}
	for i := range 10 {
		l = append(l, change{"the greatest int", nil, func(t *api.Task) {
			places, _ := numbers(t)
			*append(places, &t.Mode)[i] = math.MaxInt
		}})
	}
	return l
}

func TestEachReason(t *testing.T) { // P7.1
	reasons := map[int]int{}
	eachChange(spoils(), func(what string, s api.Set, at int) {
		refuses(t, what, s)
		why, _ := task.Why(s)
		reasons[why]++
		// The tasks ahead of it are right by themselves.
		if at > 0 {
			ahead := api.Set{Burst: s.Burst, Tasks: s.Tasks[:at]}
			prints(t, ahead, plain(ahead))
		}
	})
	for a := range api.MaxTasks {
		for b := range a {
			s := setOf(api.MaxTasks, 0)
			s.Tasks[a].Name = s.Tasks[b].Name
			refuses(t, "a name twice", s)
			s = setOf(api.MaxTasks, 0)
			s.Tasks[a].Prio = s.Tasks[b].Prio
			refuses(t, "a priority twice", s)
		}
	}
	for why := api.BadName; why <= api.BadPrio; why++ {
		if reasons[why] == 0 {
			t.Errorf("no set of reason %d", why)
		}
	}
}

func TestBurstAndCount(t *testing.T) { // P7.1
	for _, n := range []int{0, -1, -1000, 1001, 1 << 20, 1<<32 + 1, math.MinInt, math.MaxInt} {
		s := setOf(3, 0)
		s.Burst = n
		refuses(t, "burst", s)
	}
	refuses(t, "nothing", api.Set{})
	refuses(t, "no tasks", api.Set{Burst: 1})
	refuses(t, "no tasks", api.Set{Burst: 1, Tasks: []api.Task{}})
	for _, n := range []int{17, 18, 32, 256} {
		s := setOf(api.MaxTasks, 0)
		for i := api.MaxTasks; i < n; i++ {
			s.Tasks = append(s.Tasks, taskOf(api.Retry, 0))
			s.Tasks[i].Name, s.Tasks[i].Prio = fmt.Sprintf("u_%d", i), 100+i%156
		}
		refuses(t, "too many", s)
	}
}

// mixed is a right set of whatever tasks.
func mixed(r *rand.Rand) api.Set {
	s := api.Set{Burst: 1 + r.Intn(1000)}
	prios, letters := r.Perm(256), r.Perm(26)
	for i := range 1 + r.Intn(api.MaxTasks) {
		t := api.Task{Name: string(rune('a' + letters[i])), Mode: 1 + r.Intn(3), Cost: r.Intn(1001), Prio: prios[i]}
		for range r.Intn(12) {
			const signs = "abcxyz019_"
			t.Name += string(signs[r.Intn(len(signs))])
		}
		t.T = 1 + r.Intn(1<<(1+r.Intn(20)))
		t.D = 1 + r.Intn(t.T)
		t.C = 1 + r.Intn(t.D)
		if t.Mode == api.Retry {
			t.Seg = 1 + r.Intn(t.C)
		} else {
			t.A = 1 + r.Intn(t.D)
		}
		t.K = 1 + r.Intn(64)
		t.M = 1 + r.Intn(t.K)
		s.Tasks = append(s.Tasks, t)
	}
	return s
}

func TestReadAsItWas(t *testing.T) { // P7.2
	r := rand.New(rand.NewSource(72))
	for range 20000 {
		s := mixed(r)
		prints(t, s, plain(s))
	}
}

func TestReadAndPrintedAgain(t *testing.T) { // P7.2
	r := rand.New(rand.NewSource(73))
	numbers := regexp.MustCompile(` ([0-9]+)\b`)
	for range 2000 {
		s := mixed(r)
		want, _ := Set(s)
		// The same set in other layouts: zeros ahead, blanks, remarks, empty lines, no end.
		for _, text := range []string{
			want,
			strings.TrimSuffix(want, "\n"),
			numbers.ReplaceAllString(want, " 000$1"),
			strings.ReplaceAll(want, " ", "\t  "),
			"# all\n\n" + strings.ReplaceAll(want, "\n", " # x\n\n") + " ",
		} {
			read, spot := parse.Set([]byte(text))
			if spot.E != api.OK {
				t.Fatalf("%q: %v", text, spot)
			}
			if again, e := Set(read); e != api.OK || again != want {
				t.Fatalf("%q was read, and printed %q, %d", text, again, e)
			}
		}
	}
}

// unlike holds that two right sets, that aren't the same, are printed unlike.
func unlike(t *testing.T, what string, a, b api.Set) {
	t.Helper()
	x, e := Set(a)
	y, f := Set(b)
	if e != api.OK || f != api.OK {
		t.Fatalf("%s: %d, %d of %s and %s", what, e, f, short(a), short(b))
	}
	if (x == y) != like(a, b) {
		t.Fatalf("%s: %s and %s: both %q", what, short(a), short(b), x)
	}
}

func TestUnlikeByOneChange(t *testing.T) { // P7.2
	eachChange(edges(), func(what string, s api.Set, _ int) {
		for first := range modes {
			unlike(t, what, s, setOf(len(s.Tasks), first))
		}
	})
	for first := range modes {
		s := setOf(5, first)
		for at := range s.Tasks {
			x := setOf(5, first)
			places, _ := numbers(&x.Tasks[at])
			for i, place := range places {
				old := *place
				for *place++; !task.Right(x) && *place < old+300; *place++ {
				}
				if task.Right(x) {
					unlike(t, fmt.Sprintf("number %d", i), s, x)
				}
				*place = old
			}
			x.Tasks[at].Name += "0"
			unlike(t, "a name", s, x)
		}
		more := setOf(5, first)
		more.Burst++
		unlike(t, "burst", s, more)
		unlike(t, "fewer tasks", s, api.Set{Burst: s.Burst, Tasks: s.Tasks[:4]})
	}
}

func TestUnlikeModes(t *testing.T) { // P7.2
	a, b := setOf(3, 1), setOf(3, 1)
	a.Tasks[0].Mode, b.Tasks[0].Mode = api.Block, api.Backup
	unlike(t, "Block and Backup", a, b)
}

func TestUnlikeOrders(t *testing.T) { // P7.2
	s := setOf(6, 0)
	for a := range s.Tasks {
		for b := range a {
			x := setOf(6, 0)
			x.Tasks[a], x.Tasks[b] = x.Tasks[b], x.Tasks[a]
			unlike(t, "another order", s, x)
			prints(t, x, plain(x))
		}
	}
}

func TestUnlikeOfMany(t *testing.T) { // P7.2
	seen := map[string]api.Set{}
	count := 0
	look := func(s api.Set) {
		text, e := Set(s)
		if e != api.OK {
			t.Fatalf("Set(%s): %d", short(s), e)
		}
		if was, ok := seen[text]; ok && !like(was, s) {
			t.Fatalf("%s and %s: both %q", short(was), short(s), text)
		}
		seen[text] = task.Copy(s)
		count++
	}
	// Small numbers, of which many put beside each other have the same digits.
	l := []int{1, 2, 11, 12, 21, 22}
	for _, d := range l {
		for _, c := range l[:slices.Index(l, d)+1] {
			for _, k := range l {
				for _, m := range l[:slices.Index(l, k)+1] {
					for _, p := range append(l, 0, 110, 111) {
						x := api.Task{Name: "a", T: 122, D: d, C: c, A: 1, M: m, K: k, Mode: api.Block, Prio: p}
						look(api.Set{Burst: 1, Tasks: []api.Task{x}})
						x.Name, x.Mode = "a1", api.Backup
						look(api.Set{Burst: 11, Tasks: []api.Task{x}})
						x.Mode, x.A, x.Seg = api.Retry, 0, 1
						look(api.Set{Burst: 11, Tasks: []api.Task{x}})
					}
				}
			}
		}
	}
	if len(seen) != count {
		t.Errorf("%d texts of %d sets", len(seen), count)
	}
	r := rand.New(rand.NewSource(74))
	for range 10000 {
		look(mixed(r))
	}
}

// samples are right and wrong sets.
func samples() []api.Set {
	l := []api.Set{{}, {Burst: 3}, {Burst: 3, Tasks: make([]api.Task, 20)}}
	for _, n := range []int{1, 2, 7, 16, 17} {
		l = append(l, setOf(n, n%3))
	}
	for i, x := range spoils() {
		s := setOf(3, i%3)
		x.do(&s.Tasks[i%3])
		l = append(l, s)
	}
	return l
}

func TestWhatIsHandedInStays(t *testing.T) { // P7.3
	for _, s := range samples() {
		// Room behind the tasks, to see that nothing is written there either, nor read.
		whole := append(slices.Clone(s.Tasks), taskOf(api.Block, 20), taskOf(api.Retry, 21))
		was := slices.Clone(whole)
		in := api.Set{Burst: s.Burst, Tasks: whole[:len(s.Tasks)]}
		text, e := Set(in)
		for _, x := range in.Tasks {
			Task(x)
			Mode(x.Mode)
		}
		if in.Burst != s.Burst || !slices.Equal(whole, was) {
			t.Fatalf("%s was made %s", short(s), short(in))
		}
		if want, f := Set(s); text != want || e != f {
			t.Fatalf("Set(%s), with more behind it: %q, %d", short(s), text, e)
		}
	}
}

func TestAnswersStay(t *testing.T) { // P7.3
	s := setOf(4, 0)
	want := plain(s)
	text, _ := Set(s)
	first := Task(s.Tasks[0])
	clear(s.Tasks)
	if text != want || !strings.Contains(want, "\n"+first+"\n") {
		t.Errorf("the set was changed, and its text with it: %q, %q", text, first)
	}
}

func TestNothingIsKept(t *testing.T) { // P7.1, P7.3
	for _, a := range samples() {
		for _, b := range samples() {
			Set(a)
			if task.Right(b) {
				prints(t, b, plain(b))
			} else {
				refuses(t, "behind another", b)
			}
			for _, x := range a.Tasks[:min(len(a.Tasks), 2)] {
				line(t, x, plainTask(x))
			}
		}
	}
}

func TestSetsAtOnce(t *testing.T) { // P7.1
	var all sync.WaitGroup
	for i := range 16 {
		all.Go(func() {
			s := setOf(i+1, i%3)
			for range 200 {
				if text, e := Set(s); e != api.OK || text != plain(s) {
					t.Errorf("Set(%s): %q, %d", short(s), text, e)
				}
			}
		})
	}
	all.Wait()
}
