package parse

import (
	"bytes"
	"fmt"
	"math/rand"
	"regexp"
	"slices"
	"strconv"
	"strings"
	"testing"

	"pendulum/api"
	"pendulum/lex"
	"pendulum/task"
)

// setOf is a right set of so many tasks, of all modes in turn from first on. No two numbers of a task are the same, but what must be 0, so that none stands for another.
func setOf(n, first int) api.Set {
	s := api.Set{Burst: 11 + n}
	for i := range n {
		t := api.Task{Name: fmt.Sprintf("t_%d", i), T: 900 + i, D: 800 - i, C: 100 + i, Cost: 300 + i, M: 2 + i, K: 40 + i, Mode: (i+first)%3 + 1, Prio: 60 + i*7%17}
		if t.Mode == api.Retry {
			t.Seg = 20 + i
		} else {
			t.A = 700 + i
		}
		s.Tasks = append(s.Tasks, t)
	}
	return s
}

// fields are what stands in a task's line.
func fields(t api.Task) []string {
	l := []string{"task", t.Name}
	for _, n := range []int{t.T, t.D, t.C} {
		l = append(l, strconv.Itoa(n))
	}
	l = append(l, []string{"none", "retry", "block", "backup"}[t.Mode])
	for _, n := range []int{t.A, t.Seg, t.Cost, t.M, t.K, t.Prio} {
		l = append(l, strconv.Itoa(n))
	}
	return l
}

// rows are what stands in a set's lines.
func rows(s api.Set) [][]string {
	l := [][]string{{"burst", strconv.Itoa(s.Burst)}}
	for _, t := range s.Tasks {
		l = append(l, fields(t))
	}
	return l
}

// lines puts rows together, with one blank between, and each line ended.
func lines(rows [][]string) string {
	var s strings.Builder
	for _, row := range rows {
		s.WriteString(strings.Join(row, " ") + "\n")
	}
	return s.String()
}

func textOf(s api.Set) string { return lines(rows(s)) }

// short is a text's beginning, to be told where a test fails.
func short(text string) string {
	if len(text) > 400 {
		return fmt.Sprintf("%q.. (%d bytes)", text[:400], len(text))
	}
	return strconv.Quote(text)
}

func like(a, b api.Set) bool {
	return a.Burst == b.Burst && slices.Equal(a.Tasks, b.Tasks)
}

// reads holds that a text has just this set.
func reads(t *testing.T, text string, want api.Set) {
	t.Helper()
	s, spot := Set([]byte(text))
	if spot != (api.Spot{}) || !like(s, want) || !task.Right(s) {
		t.Fatalf("Set(%s): %+v, %v; want %+v", short(text), s, spot, want)
	}
}

// refuses holds that a text has a set that is zero, and an error at a place.
func refuses(t *testing.T, text string, e api.Errno, line, col int) {
	t.Helper()
	s, spot := Set([]byte(text))
	if want := (api.Spot{E: e, Line: line, Col: col}); spot != want || s.Burst != 0 || len(s.Tasks) != 0 {
		t.Fatalf("Set(%s): %+v, %v; want a zero set, %v", short(text), s, spot, want)
	}
}

var (
	piece  = regexp.MustCompile(`[a-z][a-z0-9_]*|[0-9]+`)
	number = `[0-9]+`
	ofHead = strings.Fields(`burst ` + number)
	ofTask = strings.Fields(`task [a-z].* ` + strings.Repeat(number+" ", 3) + `retry|block|backup ` + strings.Repeat(number+" ", 6))
	fit    = map[string]*regexp.Regexp{}
)

func fits(pattern, text string) bool {
	if fit[pattern] == nil {
		fit[pattern] = regexp.MustCompile(`\A(?:` + pattern + `)\z`)
	}
	return fit[pattern].MatchString(text)
}

// plainRow reads a line of patterns: its pieces, their bytes' places, and the place of what isn't asked there (0: there is none).
func plainRow(line string, patterns []string) (row []string, cols []int, wrong int) {
	bare, _, _ := strings.Cut(line, "#")
	for i, at := range piece.FindAllStringIndex(bare, -1) {
		text := bare[at[0]:at[1]]
		if i == len(patterns) || !fits(patterns[i], text) {
			return nil, nil, at[0] + 1
		}
		row, cols = append(row, text), append(cols, at[0]+1)
	}
	if len(row) > 0 && len(row) < len(patterns) {
		return nil, nil, len(line) + 1
	}
	return row, cols, 0
}

func value(text string) int {
	n, _ := strconv.Atoi(text)
	return n
}

func plainTask(row []string) api.Task {
	mode := map[string]int{"retry": 1, "block": 2, "backup": 3}[row[5]]
	return api.Task{Name: row[1], T: value(row[2]), D: value(row[3]), C: value(row[4]), Mode: mode,
		A: value(row[6]), Seg: value(row[7]), Cost: value(row[8]), M: value(row[9]), K: value(row[10]), Prio: value(row[11])}
}

// plain reads a text line by line, by patterns: what Set is held against.
func plain(text string) (api.Set, api.Spot) {
	if _, spot := lex.Tokens([]byte(text)); spot.E != api.OK {
		return api.Set{}, spot
	}
	var s api.Set
	var places []api.Spot // of Burst's number, and each task's first word
	patterns := ofHead
	all := strings.Split(text, "\n")
	for i, line := range all {
		row, cols, wrong := plainRow(line, patterns)
		switch {
		case wrong > 0:
			return api.Set{}, api.Spot{E: api.ErrText, Line: i + 1, Col: wrong}
		case len(row) == 2:
			s.Burst, patterns = value(row[1]), ofTask
			places = append(places, api.Spot{E: api.ErrArg, Line: i + 1, Col: cols[1]})
		case len(row) > 2:
			s.Tasks = append(s.Tasks, plainTask(row))
			places = append(places, api.Spot{E: api.ErrArg, Line: i + 1, Col: cols[0]})
		}
	}
	end := api.Spot{E: api.ErrArg, Line: len(all), Col: len(all[len(all)-1]) + 1}
	if len(places) == 0 {
		end.E = api.ErrText
		return api.Set{}, end
	}
	switch why, at := task.Why(s); {
	case why == api.Fine:
		return s, api.Spot{}
	case why == api.BadBurst:
		return api.Set{}, places[0]
	case why == api.BadCount && len(s.Tasks) == 0:
		return api.Set{}, end
	case why == api.BadCount:
		return api.Set{}, places[17]
	default:
		return api.Set{}, places[at+1]
	}
}

// asPlain holds Set against the plain reading, and answers the error.
func asPlain(t *testing.T, text string) api.Errno {
	t.Helper()
	want, spot := plain(text)
	if spot != (api.Spot{}) {
		refuses(t, text, spot.E, spot.Line, spot.Col)
	} else {
		reads(t, text, want)
	}
	return spot.E
}

func TestOneTaskOfEachMode(t *testing.T) { // P6.1
	reads(t, "burst 3\ntask low 100 90 10 retry 0 5 1 2 3 9\n",
		api.Set{Burst: 3, Tasks: []api.Task{{Name: "low", T: 100, D: 90, C: 10, Seg: 5, Cost: 1, M: 2, K: 3, Mode: api.Retry, Prio: 9}}})
	reads(t, "burst 1000\ntask mid 80 70 60 block 50 0 40 30 31 20\n",
		api.Set{Burst: 1000, Tasks: []api.Task{{Name: "mid", T: 80, D: 70, C: 60, A: 50, Cost: 40, M: 30, K: 31, Mode: api.Block, Prio: 20}}})
	reads(t, "burst 1\ntask high 50 40 5 backup 4 0 0 1 1 0",
		api.Set{Burst: 1, Tasks: []api.Task{{Name: "high", T: 50, D: 40, C: 5, A: 4, M: 1, K: 1, Mode: api.Backup}}})
}

func TestSomeTasks(t *testing.T) { // P6.1
	reads(t, "burst 2\ntask a 9 8 3 retry 0 2 1 1 2 5\ntask b 19 18 13 block 12 0 6 3 4 7\ntask c 29 28 23 backup 22 0 0 1 1 6\n",
		api.Set{Burst: 2, Tasks: []api.Task{
			{Name: "a", T: 9, D: 8, C: 3, Seg: 2, Cost: 1, M: 1, K: 2, Mode: api.Retry, Prio: 5},
			{Name: "b", T: 19, D: 18, C: 13, A: 12, Cost: 6, M: 3, K: 4, Mode: api.Block, Prio: 7},
			{Name: "c", T: 29, D: 28, C: 23, A: 22, M: 1, K: 1, Mode: api.Backup, Prio: 6},
		}})
	for n := 1; n <= api.MaxTasks; n++ {
		for first := range 3 {
			s := setOf(n, first)
			reads(t, textOf(s), s)
			reads(t, strings.TrimSuffix(textOf(s), "\n"), s)
		}
	}
}

func TestNamesThatAreOtherWords(t *testing.T) { // P6.1
	for _, name := range []string{"task", "burst", "retry", "block", "backup", "a", "z_9", "a_0123456789"} {
		s := setOf(3, 0)
		s.Tasks[1].Name = name
		reads(t, textOf(s), s)
	}
}

func TestZerosAhead(t *testing.T) { // P6.1
	s := setOf(4, 0)
	r := rows(s)
	for i := range r {
		for j := range r[i] {
			if fits(number, r[i][j]) {
				r[i][j] = strings.Repeat("0", 1+20*j) + r[i][j]
			}
		}
	}
	reads(t, lines(r), s)
}

func TestLayoutByHand(t *testing.T) { // P6.2
	s := setOf(2, 0)
	head, one, two := "burst 13", strings.Join(fields(s.Tasks[0]), " "), strings.Join(fields(s.Tasks[1]), " ")
	tabs := strings.NewReplacer(" ", "\t")
	wide := strings.NewReplacer(" ", " \t \t")
	for _, text := range []string{
		head + "\n" + one + "\n" + two,
		head + "\n" + one + "\n" + two + "\n",
		"\n\n\n" + head + "\n" + one + "\n" + two,
		head + "\n\n\n" + one + "\n" + two,
		head + "\n" + one + "\n\n\n\n" + two,
		head + "\n" + one + "\n" + two + "\n\n\n",
		" \t\n" + head + "\n \n" + one + "\n\t\n" + two + "\n \t ",
		"  " + head + "  \n\t" + one + "\t\n \t" + two + "\t ",
		tabs.Replace(head + "\n" + one + "\n" + two),
		wide.Replace(head + "\n" + one + "\n" + two),
		"# all\n" + head + "\n# one\n" + one + "\n #two\n" + two + "\n#",
		head + "# burst 1\n" + one + " # task\n" + two + "\t#\n",
		"#\n#\n" + head + "#\xff\x00A\n" + one + "#\n#1099511627777\n" + two + "# task a 9\n# no more",
		head + "\n" + one + "\n" + strings.Replace(two, " block", "block", 1),
	} {
		reads(t, text, s)
	}
}

// laid puts rows together with whatever may stand between, ahead and behind.
func laid(r *rand.Rand, rows [][]string) string {
	blanks := []string{" ", "\t", "  ", "\t \t", "     "}
	ahead := []string{"", "", " ", "\t\t", " \t"}
	behind := []string{"", "", " ", "\t", "#", " # task a 9 !", "#\xff#\r\x00 burst"}
	empty := func() string {
		return strings.Repeat(ahead[r.Intn(len(ahead))]+behind[r.Intn(len(behind))]+"\n", r.Intn(3))
	}
	var s strings.Builder
	for _, row := range rows {
		s.WriteString(empty() + ahead[r.Intn(len(ahead))])
		for j, x := range row {
			if j > 0 {
				s.WriteString(blanks[r.Intn(len(blanks))])
			}
			s.WriteString(x)
		}
		s.WriteString(behind[r.Intn(len(behind))] + "\n")
	}
	text := s.String() + empty() + ahead[r.Intn(len(ahead))] + behind[r.Intn(len(behind))]
	if r.Intn(2) == 0 {
		text = strings.TrimRight(text, "\n")
	}
	return text
}

func TestLayouts(t *testing.T) { // P6.2
	r := rand.New(rand.NewSource(61))
	for n := 1; n <= api.MaxTasks; n++ {
		for range 100 {
			s := setOf(n, r.Intn(3))
			text := laid(r, rows(s))
			reads(t, text, s)
			asPlain(t, text)
		}
	}
}

func TestLayoutsOfWrongTexts(t *testing.T) { // P6.2
	r := rand.New(rand.NewSource(62))
	for _, change := range []func(r [][]string) [][]string{
		func(r [][]string) [][]string { return r[1:] },
		func(r [][]string) [][]string { return r[:1] },
		func(r [][]string) [][]string { r[2] = r[2][:7]; return r },
		func(r [][]string) [][]string { r[3] = append(r[3], "1"); return r },
		func(r [][]string) [][]string { r[0][1] = "0"; return r },
		func(r [][]string) [][]string { r[3][1] = r[1][1]; return r },
		func(r [][]string) [][]string { r[2][5] = "other"; return r },
		func(r [][]string) [][]string { r[4][11] = "1099511627777"; return r },
	} {
		rows := change(rows(setOf(5, 1)))
		_, spot := Set([]byte(lines(rows)))
		for range 100 {
			text := laid(r, rows)
			if e := asPlain(t, text); e != spot.E || e == api.OK {
				t.Fatalf("Set(%s): %d; want %d", short(text), e, spot.E)
			}
		}
	}
}

func TestNothing(t *testing.T) { // P6.1
	refuses(t, "", api.ErrText, 1, 1)
	if s, spot := Set(nil); spot != (api.Spot{E: api.ErrText, Line: 1, Col: 1}) || s.Burst != 0 || len(s.Tasks) != 0 {
		t.Errorf("Set(nil): %+v, %v", s, spot)
	}
	refuses(t, "\n", api.ErrText, 2, 1)
	refuses(t, "  \t", api.ErrText, 1, 4)
	refuses(t, "# burst 1", api.ErrText, 1, 10)
	refuses(t, "\n \n#\n\n # x", api.ErrText, 5, 5)
}

func TestBurstLines(t *testing.T) { // P6.1, the chapter's example
	refuses(t, "burst", api.ErrText, 1, 6)
	refuses(t, "burst\n", api.ErrText, 1, 6)
	refuses(t, " burst \t# 1\n", api.ErrText, 1, 12)
	refuses(t, "burst\n1", api.ErrText, 1, 6)
	refuses(t, "burst 1", api.ErrArg, 1, 8)
	refuses(t, "burst 1\n", api.ErrArg, 2, 1)
	refuses(t, "burst 1 # one", api.ErrArg, 1, 14)
	refuses(t, "burst 1\n\n # no task\n\t", api.ErrArg, 4, 2)
	refuses(t, "burst 1 1", api.ErrText, 1, 9)
	refuses(t, "burst 1 task", api.ErrText, 1, 9)
	refuses(t, "burst 1task a 9 8 3 retry 0 2 1 1 2 5", api.ErrText, 1, 8)
	refuses(t, "burst1", api.ErrText, 1, 1)
	refuses(t, "1", api.ErrText, 1, 1)
	refuses(t, "task a 9 8 3 retry 0 2 1 1 2 5\n", api.ErrText, 1, 1)
	refuses(t, "\n\ttask a 9 8 3 retry 0 2 1 1 2 5\nburst 1", api.ErrText, 2, 2)
}

func TestTheSeventeenthTask(t *testing.T) { // P6.1
	for _, n := range []int{17, 18, 40} {
		s := setOf(16, 0)
		for i := 16; i < n; i++ {
			s.Tasks = append(s.Tasks, s.Tasks[i-16])
			s.Tasks[i].Name, s.Tasks[i].Prio = fmt.Sprintf("u_%d", i), 100+i
		}
		r := rows(s)
		refuses(t, lines(r), api.ErrArg, 18, 1)
		refuses(t, "\n#\n"+strings.ReplaceAll(lines(r), "task", " \ttask"), api.ErrArg, 20, 3)
		r[3][2] = "0"
		refuses(t, lines(r), api.ErrArg, 18, 1)
		r[17][2] = "0"
		refuses(t, lines(r), api.ErrArg, 18, 1)
		r[0][1] = "1001"
		refuses(t, lines(r), api.ErrArg, 1, 7)
		r[n][11] = "word"
		refuses(t, lines(r), api.ErrText, n+1, len(strings.Join(r[n][:11], " "))+2)
		reads(t, textOf(api.Set{Burst: s.Burst, Tasks: s.Tasks[:16]}), api.Set{Burst: s.Burst, Tasks: s.Tasks[:16]})
	}
}

func TestEachBeginning(t *testing.T) { // P6.1
	for _, text := range []string{
		textOf(setOf(1, 0)), textOf(setOf(1, 1)), textOf(setOf(4, 2)), textOf(setOf(17, 0)),
		"\n# all tasks\nburst 3\n\ntask low 100 90 10 retry 0 5 1 2 3 9\n\ttask high 50 40 5 backup 4 0 0 1 1 0 # last\n \n",
	} {
		for n := range len(text) + 1 {
			asPlain(t, text[:n])
		}
	}
	text := "burst 10\ntask a 99 88 33 block 22 0 1 1 2 15\n"
	set := api.Set{Burst: 10, Tasks: []api.Task{{Name: "a", T: 99, D: 88, C: 33, A: 22, Cost: 1, M: 1, K: 2, Mode: api.Block, Prio: 15}}}
	refuses(t, text[:3], api.ErrText, 1, 1)   // bur
	refuses(t, text[:5], api.ErrText, 1, 6)   // burst
	refuses(t, text[:7], api.ErrArg, 1, 8)    // burst 1
	refuses(t, text[:9], api.ErrArg, 2, 1)    // and the line's end
	refuses(t, text[:11], api.ErrText, 2, 1)  // ta
	refuses(t, text[:15], api.ErrText, 2, 7)  // task a
	refuses(t, text[:17], api.ErrText, 2, 9)  // 9
	refuses(t, text[:27], api.ErrText, 2, 17) // bl
	refuses(t, text[:30], api.ErrText, 2, 22) // block
	refuses(t, text[:42], api.ErrText, 2, 34) // 2 of K, and a blank
	set.Tasks[0].Prio = 1
	reads(t, text[:43], set)
	set.Tasks[0].Prio = 15
	reads(t, text[:44], set)
	reads(t, text, set)
}

// spoil is a change of a task, that is told as a reason of chapter 5; or isn't one, if it is right.
type spoil struct {
	what  string
	right bool
	mode  int // 0: of whichever
	do    func(t *api.Task)
}

// limits are numbers at a limit of chapter 5, and beyond it.
func limits() []spoil {
	l := []spoil{
		{"T", true, 0, func(t *api.Task) { t.T = 1 << 20 }},
		{"T", false, 0, func(t *api.Task) { t.T = 1<<20 + 1 }},
		{"T", true, 0, func(t *api.Task) { t.T = t.D }},
		{"T", false, 0, func(t *api.Task) { t.T = t.D - 1 }},
		{"D", true, 0, func(t *api.Task) { t.D = t.T }},
		{"D", false, 0, func(t *api.Task) { t.D = t.T + 1 }},
		{"C", true, 0, func(t *api.Task) { t.C = t.D }},
		{"C", false, 0, func(t *api.Task) { t.C = t.D + 1 }},
		{"C", true, api.Block, func(t *api.Task) { t.C = 1 }},
		{"C", false, 0, func(t *api.Task) { t.C = 0 }},
		{"Cost", true, 0, func(t *api.Task) { t.Cost = 0 }},
		{"Cost", true, 0, func(t *api.Task) { t.Cost = 1000 }},
		{"Cost", false, 0, func(t *api.Task) { t.Cost = 1001 }},
		{"Seg", true, api.Retry, func(t *api.Task) { t.Seg = 1 }},
		{"Seg", false, api.Retry, func(t *api.Task) { t.Seg = 0 }},
		{"Seg", true, api.Retry, func(t *api.Task) { t.Seg = t.C }},
		{"Seg", false, api.Retry, func(t *api.Task) { t.Seg = t.C + 1 }},
		{"A", false, api.Retry, func(t *api.Task) { t.A = 1 }},
		{"M", true, 0, func(t *api.Task) { t.M = 1 }},
		{"M", false, 0, func(t *api.Task) { t.M = 0 }},
		{"M", true, 0, func(t *api.Task) { t.M = t.K }},
		{"M", false, 0, func(t *api.Task) { t.M = t.K + 1 }},
		{"K", true, 0, func(t *api.Task) { t.K = 64 }},
		{"K", false, 0, func(t *api.Task) { t.K = 65 }},
		{"Prio", true, 0, func(t *api.Task) { t.Prio = 0 }},
		{"Prio", true, 0, func(t *api.Task) { t.Prio = 255 }},
		{"Prio", false, 0, func(t *api.Task) { t.Prio = 256 }},
		{"Name", true, 0, func(t *api.Task) { t.Name = "abcdefghijkl" }},
		{"Name", false, 0, func(t *api.Task) { t.Name = "abcdefghijklm" }},
		{"Mode", false, api.Retry, func(t *api.Task) { t.Mode = api.Backup }},
		{"Mode", false, api.Block, func(t *api.Task) { t.Mode = api.Retry }},
	}
	for _, mode := range []int{api.Block, api.Backup} {
		l = append(l,
			spoil{"A", true, mode, func(t *api.Task) { t.A = 1 }},
			spoil{"A", false, mode, func(t *api.Task) { t.A = 0 }},
			spoil{"A", true, mode, func(t *api.Task) { t.A = t.D }},
			spoil{"A", false, mode, func(t *api.Task) { t.A = t.D + 1 }},
			spoil{"Seg", false, mode, func(t *api.Task) { t.Seg = 1 }})
	}
	return l
}

// repeats are changes of a set's last task by what its first one has.
func repeats(s api.Set) []spoil {
	return []spoil{
		{"Name twice", false, 0, func(t *api.Task) { t.Name = s.Tasks[0].Name }},
		{"Prio twice", false, 0, func(t *api.Task) { t.Prio = s.Tasks[0].Prio }},
	}
}

// eachSpoil calls f with sets that have one change each, at the first, a middle and the last task.
func eachSpoil(f func(s api.Set, at int, x spoil)) {
	for _, n := range []int{1, 3, 8, api.MaxTasks} {
		for first := range 3 {
			for _, at := range slices.Compact([]int{0, n / 2, n - 1}) {
				l := limits()
				if at > 0 {
					l = append(l, repeats(setOf(n, first))...)
				}
				for _, x := range l {
					s := setOf(n, first)
					if x.mode == 0 || x.mode == s.Tasks[at].Mode {
						x.do(&s.Tasks[at])
						f(s, at, x)
					}
				}
			}
		}
	}
}

func TestEachReason(t *testing.T) { // P6.1, P6.2
	eachSpoil(func(s api.Set, at int, x spoil) {
		text := textOf(s)
		if x.right {
			reads(t, text, s)
			return
		}
		refuses(t, text, api.ErrArg, at+2, 1)
		refuses(t, strings.ReplaceAll(text, "task", "\n\t  task"), api.ErrArg, 2*at+3, 4)
		refuses(t, strings.Replace(text, strconv.Itoa(s.Burst), "0", 1), api.ErrArg, 1, 7)
	})
}

func TestTextComesAheadOfReasons(t *testing.T) { // P6.1
	eachSpoil(func(s api.Set, at int, x spoil) {
		text, line := textOf(s), len(s.Tasks)+2
		refuses(t, text+"task", api.ErrText, line, 5)
		refuses(t, text+"\n burst 1", api.ErrText, line+1, 2)
		refuses(t, text+" 7\n", api.ErrText, line, 2)
		refuses(t, strings.TrimSuffix(text, "\n")+" 7", api.ErrText, line-1, len(strings.Join(fields(s.Tasks[line-3]), " "))+2)
		refuses(t, text+"task b 9 8 3 other 0 2 1 1 2 255", api.ErrText, line, 14)
		refuses(t, "burst 7 7\n"+text, api.ErrText, 1, 9)
		refuses(t, "burst 0\n"+text, api.ErrText, 2, 1)
		refuses(t, text+"!", api.ErrText, line, 1)
		refuses(t, text+"1099511627777", api.ErrOver, line, 1)
	})
}

func TestTheFirstReasonIsTold(t *testing.T) { // P6.1
	var wrong []spoil
	for _, x := range limits() {
		if !x.right && x.mode == 0 {
			wrong = append(wrong, x)
		}
	}
	for _, x := range wrong {
		for _, y := range wrong {
			s := setOf(4, 0)
			x.do(&s.Tasks[1])
			y.do(&s.Tasks[3])
			refuses(t, textOf(s), api.ErrArg, 3, 1)
		}
	}
}

func TestBurstsLimits(t *testing.T) { // P6.1
	for _, n := range []int{1, 2, 999, 1000} {
		s := setOf(3, 1)
		s.Burst = n
		reads(t, textOf(s), s)
	}
	for _, n := range []int{0, 1001, 1 << 20, 1<<32 + 1, 1 << 40} {
		s := setOf(3, 1)
		s.Burst = n
		refuses(t, textOf(s), api.ErrArg, 1, 7)
		refuses(t, "\n \tburst\t # x\n", api.ErrText, 2, 13)
		refuses(t, fmt.Sprintf("\n \tburst \t%d # no tasks\n", n), api.ErrArg, 2, 10)
	}
}

// eachPlace calls f with each place of each line of some texts: the rows, the row's and the piece's number, and the text ahead of the piece. One behind a line's last piece is a place too.
func eachPlace(f func(rows [][]string, i, j int, ahead string)) {
	for _, n := range []int{1, 3} {
		for first := range 3 {
			l := rows(setOf(n, first))
			for i := range l {
				for j := range len(l[i]) + 1 {
					ahead := lines(l[:i]) + strings.Join(l[i][:j], " ")
					if j > 0 {
						ahead += " "
					}
					f(l, i, j, ahead)
				}
			}
		}
	}
}

// lastPlace is the place right behind a text.
func lastPlace(text string) (line, col int) {
	return strings.Count(text, "\n") + 1, len(text) - strings.LastIndexByte(text, '\n')
}

// asked tells whether a piece is one that is asked at a place of a row.
func asked(i, j int, x string) bool {
	patterns := ofTask
	if i == 0 {
		patterns = ofHead
	}
	return j < len(patterns) && fits(patterns[j], x)
}

func TestNumbersThatAreGreat(t *testing.T) { // P6.1
	eachPlace(func(rows [][]string, i, j int, ahead string) {
		if !asked(i, j, "7") {
			return
		}
		behind := " " + strings.Join(rows[i][j+1:], " ") + "\n" + lines(rows[i+1:])
		line, col := lastPlace(ahead)
		for _, over := range []string{"1099511627777", "01099511627777", "18446744073709551617", strings.Repeat("9", 99)} {
			refuses(t, ahead+over+behind, api.ErrOver, line, col)
			refuses(t, ahead+over+behind+"task", api.ErrOver, line, col)
			refuses(t, ahead+over, api.ErrOver, line, col)
		}
		if i == 0 {
			refuses(t, ahead+"1099511627776"+behind, api.ErrArg, 1, 7)
		} else {
			refuses(t, ahead+"1099511627776"+behind, api.ErrArg, i+1, 1)
		}
	})
}

func TestOtherTokensAtEachPlace(t *testing.T) { // P6.1
	others := []string{"pump", "burst", "task", "retry", "block", "backup", "bursts", "tas", "tasks", "retr", "retry0", "blocks", "backu", "a_very_long_word_indeed", "7", "0", "1099511627776"}
	eachPlace(func(rows [][]string, i, j int, ahead string) {
		line, col := lastPlace(ahead)
		for _, x := range others {
			// In the place of what stands there, ahead of it, and with nothing behind it.
			texts := []string{
				ahead + x + " " + strings.Join(rows[i][min(j+1, len(rows[i])):], " ") + "\n" + lines(rows[i+1:]),
				ahead + x + " " + strings.Join(rows[i][j:], " ") + "\n" + lines(rows[i+1:]),
				ahead + x,
				ahead + x + " # y\n",
			}
			for _, text := range texts {
				if !asked(i, j, x) {
					refuses(t, text, api.ErrText, line, col)
				} else {
					asPlain(t, text)
				}
			}
		}
	})
}

func TestEndsAtEachPlace(t *testing.T) { // P6.1
	eachPlace(func(rows [][]string, i, j int, ahead string) {
		rest := strings.Join(rows[i][min(j, len(rows[i])):], " ") + "\n" + lines(rows[i+1:])
		line, col := lastPlace(ahead)
		for _, end := range []string{"", "#", " \t# x", "\n", "#\n", "\n" + rest, "# x 1\n\n" + rest, " \n#" + rest} {
			text := ahead + end
			if j == 0 || j == len(rows[i]) {
				asPlain(t, text) // Here a line's end may stand.
				continue
			}
			bare, _, _ := strings.Cut(end, "\n")
			refuses(t, text, api.ErrText, line, col+len(bare))
		}
	})
}

func TestPiecesThatAreMissing(t *testing.T) { // P6.1
	eachPlace(func(rows [][]string, i, j int, ahead string) {
		if j == len(rows[i]) {
			return
		}
		asPlain(t, ahead+strings.Join(rows[i][j+1:], " ")+"\n"+lines(rows[i+1:]))
		asPlain(t, lines(rows[:i])+lines(rows[i+1:]))
		asPlain(t, lines(rows[:i+1])+lines(rows[i:]))
	})
	refuses(t, "burst 1\ntask 9 8 3 retry 0 2 1 1 2 5", api.ErrText, 2, 6)
	refuses(t, "burst 1\ntask a 9 8 retry 0 2 1 1 2 5", api.ErrText, 2, 12)
	refuses(t, "burst 1\ntask a 9 8 3 0 2 1 1 2 5", api.ErrText, 2, 14)
	refuses(t, "burst 1\na 9 8 3 retry 0 2 1 1 2 5", api.ErrText, 2, 1)
	refuses(t, "burst 1\ntask a 9 8 3 retry 0 2 1 1 2\n5", api.ErrText, 2, 29)
	refuses(t, "burst 1\ntask a 9 8 3 retry 0 2 1 1 2 5 task b 9 8 3 retry 0 2 1 1 2 6", api.ErrText, 2, 32)
	refuses(t, "burst 1\ntask a 9 8 3 retry 0 2 1 1 2 5\nburst 1\n", api.ErrText, 3, 1)
}

func TestATextTwice(t *testing.T) { // P6.1
	for n := 1; n <= api.MaxTasks; n++ {
		text := textOf(setOf(n, n%3))
		refuses(t, text+text, api.ErrText, n+2, 1)
		refuses(t, text+"\n# again\n "+text, api.ErrText, n+4, 2)
		line, col := lastPlace(strings.TrimSuffix(text, "\n"))
		refuses(t, strings.TrimSuffix(text, "\n")+text, api.ErrText, line, col)
	}
	refuses(t, "burst 1\nburst 1\n", api.ErrText, 2, 1)
	refuses(t, "burst 1 burst 1\n", api.ErrText, 1, 9)
	refuses(t, "burst 0\nburst 0\n", api.ErrText, 2, 1)
}

func TestBytesThatAreNotRead(t *testing.T) { // P6.1
	// Texts that aren't right in themselves, and the error that each has.
	wrong := map[string]api.Errno{
		"": api.ErrText, "burst": api.ErrText, "burst 1\n": api.ErrArg, "task\n": api.ErrText, "burst 0\ntask a 9 8 3 retry 0 2 1 1 2 5\n": api.ErrArg,
		"burst 1\ntask a 9 8 3 other 0 2 1 1 2 5\n": api.ErrText, "burst 1\ntask a 9 8 9 retry 0 2 1 1 2 5\n": api.ErrArg, textOf(setOf(17, 0)): api.ErrArg,
		textOf(setOf(3, 0)): api.OK,
	}
	for text, e := range wrong {
		if got := asPlain(t, text); got != e {
			t.Errorf("Set(%s): %d; want %d", short(text), got, e)
		}
		for _, x := range []string{"!", "A", "\r", "\x00", "\xff", "ä", "-1", "_", "1099511627777", "=1099511627777"} {
			e := api.ErrText
			if x[0] == '1' {
				e = api.ErrOver
			}
			refuses(t, x+"\n"+text, e, 1, 1)
			refuses(t, "\n "+x+" "+text, e, 2, 2)
			behind := text + "\n\n "
			line, col := lastPlace(behind)
			refuses(t, behind+x, e, line, col)
			refuses(t, behind+x+"\n"+text+" !", e, line, col)
		}
	}
	refuses(t, "burst 1\ntask a 9 8 3 retry 0 2 1 1 2 A", api.ErrText, 2, 30)
	refuses(t, "task 1099511627777", api.ErrOver, 1, 6)
	refuses(t, "burst 1\r\ntask a 9 8 3 retry 0 2 1 1 2 5\r\n", api.ErrText, 1, 8)
}

func TestMode(t *testing.T) { // P6.1
	words := map[string]int{"retry": api.Retry, "block": api.Block, "backup": api.Backup}
	for s, mode := range words {
		if Mode(s) != mode {
			t.Errorf("Mode(%q): %d; want %d", s, Mode(s), mode)
		}
		others := []string{strings.ToUpper(s), " " + s, s + " ", s + s, s + "\n"}
		for i := range s {
			others = append(others, s[:i], s[i+1:], s[:i]+s[i+1:])
			for c := range 256 {
				b := string([]byte{byte(c)})
				others = append(others, s[:i]+b+s[i:], s[:i]+b+s[i+1:], s+b)
			}
		}
		for _, x := range others {
			if x != s && Mode(x) != 0 {
				t.Errorf("Mode(%q): %d", x, Mode(x))
			}
		}
	}
	for _, s := range []string{"", " ", "\x00", "\xff", "none", "other", "task", "burst", "1", "2", "3", "Retry", "Block", "Backup", "back", "retry block", strings.Repeat("retry", 1<<16)} {
		if Mode(s) != 0 {
			t.Errorf("Mode(%.20q): %d", s, Mode(s))
		}
	}
}

func TestShortTexts(t *testing.T) { // P6.1, P6.2
	last := []string{""}
	for range 5 {
		var next []string
		for _, s := range last {
			for _, p := range []string{"burst", "task", "retry", " 0", " 1", "\n", "#", " x", "!"} {
				next = append(next, s+p)
				asPlain(t, s+p)
			}
		}
		last = next
	}
}

// mixed is a text of a set whose pieces are changed here and there.
func mixed(r *rand.Rand) string {
	l := rows(setOf(r.Intn(19), r.Intn(3)))
	others := []string{"0", "1", "64", "65", "255", "256", "1000", "1001", "1048576", "1048577", "1099511627776", "1099511627777", "t_0", "t_1", "abcdefghijklm", "task", "burst", "retry", "block", "backup", "other", "!", "\n", "#", "# x\n", "5 5", "a b"}
	for range r.Intn(3) {
		row := l[r.Intn(len(l))]
		row[r.Intn(len(row))] = others[r.Intn(len(others))]
	}
	if r.Intn(8) == 0 {
		i, j := r.Intn(len(l)), r.Intn(len(l))
		l[i], l[j] = l[j], l[i]
	}
	text := laid(r, l)
	if r.Intn(8) == 0 {
		text = text[:r.Intn(len(text)+1)]
	}
	return text
}

func TestMixedTexts(t *testing.T) { // P6.1, P6.2
	r := rand.New(rand.NewSource(63))
	count := map[api.Errno]int{}
	for range 30000 {
		count[asPlain(t, mixed(r))]++
	}
	for _, e := range []api.Errno{api.OK, api.ErrArg, api.ErrOver, api.ErrText} {
		if count[e] < 500 {
			t.Errorf("%d texts of %d", count[e], e)
		}
	}
}

func TestLongTexts(t *testing.T) { // P6.1, P1
	const many = 1 << 16
	s := setOf(2, 0)
	line := strings.Join(fields(s.Tasks[0]), " ") + "\n"
	refuses(t, "burst 1\n"+strings.Repeat(line, many), api.ErrArg, 18, 1)
	refuses(t, "burst 1\n"+strings.Repeat(line, many)+"tasks", api.ErrText, many+2, 1)
	refuses(t, strings.Repeat("\n", many), api.ErrText, many+1, 1)
	refuses(t, strings.Repeat("burst ", many), api.ErrText, 1, 7)
	refuses(t, "burst "+strings.Repeat("1 ", many), api.ErrText, 1, 9)
	refuses(t, "burst 1\ntask "+strings.Repeat("a", many)+" 9 8 3 retry 0 2 1 1 2 5", api.ErrArg, 2, 1)
	refuses(t, "burst 1\ntask a "+strings.Repeat("9 ", many), api.ErrText, 2, 14)
	blank, empty := strings.Repeat(" \t", many), strings.Repeat(" # x\n", many)
	text := strings.ReplaceAll(textOf(s), " ", blank)
	reads(t, empty+strings.ReplaceAll(text, "\n", "\n"+empty)+blank, s)
}

// samples are right and wrong texts.
func samples() []string {
	return []string{
		"", "\n", "burst", "burst 1", "burst 0\n", "task", "burst 1 !", "burst 1099511627777",
		textOf(setOf(1, 0)), textOf(setOf(5, 2)), textOf(setOf(16, 1)), textOf(setOf(17, 0)), textOf(setOf(3, 0)) + "task a", textOf(setOf(3, 0)) + textOf(setOf(3, 0)),
		"\n# all\n burst\t3 # x\n\n" + strings.Join(fields(setOf(1, 0).Tasks[0]), " \t"),
	}
}

func TestWhatIsHandedInStays(t *testing.T) { // P6.3
	for _, text := range samples() {
		// Room behind the text, to see that nothing is written there either, nor read.
		behind := " tail 77 !\n"
		whole := []byte(text + behind)
		s, spot := Set(whole[:len(text)])
		if !bytes.Equal(whole, []byte(text+behind)) {
			t.Errorf("Set(%s) made it %s", short(text), short(string(whole)))
		}
		if want, at := plain(text); spot != at || !like(s, want) {
			t.Errorf("Set(%s), with more behind it: %+v, %v", short(text), s, spot)
		}
	}
}

func TestNewMemory(t *testing.T) { // P6.3
	for n := 1; n <= api.MaxTasks; n++ {
		want := setOf(n, n%3)
		b := []byte(textOf(want))
		first, _ := Set(b)
		second, _ := Set(b)
		for i := range b {
			b[i] = 'x'
		}
		if !like(first, want) {
			t.Fatalf("the text was changed, and the set with it: %+v", first)
		}
		clear(first.Tasks[:cap(first.Tasks)])
		if !like(second, want) {
			t.Fatalf("an answer was changed, and another with it: %+v", second)
		}
		reads(t, textOf(want), want)
	}
}

func TestNothingIsKept(t *testing.T) { // P6.1, P6.3
	for _, a := range samples() {
		for _, b := range samples() {
			Set([]byte(a))
			asPlain(t, b)
		}
	}
}
