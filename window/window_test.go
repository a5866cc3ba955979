package window

import (
	"math"
	"math/rand"
	"slices"
	"testing"

	"pendulum/api"
)

const most = 64 // of (m,k)

// named are the (m,k) that the chapter names as edges.
var named = [][2]int{{1, 1}, {1, most}, {most, most}, {most - 1, most}}

// each goes through all right (m,k).
func each(do func(m, k int)) {
	for k := 1; k <= most; k++ {
		for m := 1; m <= k; m++ {
			do(m, k)
		}
	}
}

// model is a window as plainly as can be: all jobs, with k met ones ahead of them.
type model struct {
	m, k int
	jobs []bool
}

func newModel(m, k int) *model { return &model{m, k, met(k)} }

func (x *model) push(job bool) { x.jobs = append(x.jobs, job) }

func (x *model) last() []bool { return x.jobs[len(x.jobs)-x.k:] }

func (x *model) met() int { return count(x.last()) }

func (x *model) fails() bool { return x.met() < x.m }

// distance looks at the last k of all jobs and more and more misses.
func (x *model) distance() int {
	all := slices.Clone(x.last())
	for count(all[len(all)-x.k:]) >= x.m {
		all = append(all, false)
	}
	return len(all) - x.k
}

func count(jobs []bool) int {
	n := 0
	for _, job := range jobs {
		if job {
			n++
		}
	}
	return n
}

// met is n jobs that were met.
func met(n int) []bool {
	l := make([]bool, n)
	for i := range l {
		l[i] = true
	}
	return l
}

// jobs is a text of 1 and 0 as jobs that were met and missed.
func jobs(text string) []bool {
	var l []bool
	for _, c := range text {
		l = append(l, c == '1')
	}
	return l
}

func newWindow(t *testing.T, m, k int) *Window {
	t.Helper()
	w, e := New(m, k)
	if e != api.OK || w == nil {
		t.Fatalf("New(%d, %d): %v, %d", m, k, w, e)
	}
	return w
}

func pushAll(w *Window, l []bool) {
	for _, job := range l {
		w.Push(job)
	}
}

// holds asks a window of all that it tells, against the model.
func holds(t *testing.T, w *Window, x *model) {
	t.Helper()
	if l := w.Last(); !slices.Equal(l, x.last()) {
		t.Fatalf("(%d,%d), Last: %v; want %v", x.m, x.k, l, x.last())
	}
	if n := w.Met(); n != x.met() {
		t.Fatalf("(%d,%d), Met: %d; want %d of %v", x.m, x.k, n, x.met(), x.last())
	}
	if w.Fails() != x.fails() {
		t.Fatalf("(%d,%d), Fails: %v of %v", x.m, x.k, !x.fails(), x.last())
	}
	if n := w.Distance(); n != x.distance() {
		t.Fatalf("(%d,%d), Distance: %d; want %d of %v", x.m, x.k, n, x.distance(), x.last())
	}
}

// like is a second window whose last k jobs went as the first one's.
func like(t *testing.T, w *Window, m, k int) *Window {
	t.Helper()
	other := newWindow(t, m, k)
	pushAll(other, w.Last())
	return other
}

// misses pushes misses onto a second window until it fails, and tells how many.
func misses(t *testing.T, w *Window, m, k int) int {
	t.Helper()
	other := like(t, w, m, k)
	n := 0
	for !other.Fails() {
		if n > k {
			t.Fatalf("(%d,%d): no failure with %d misses behind %v", m, k, n, w.Last())
		}
		other.Push(false)
		n++
	}
	return n
}

// runs is a run of jobs, of which about so many of a hundred are met, and some of which come in long rows.
func runs(r *rand.Rand, n, ofHundred int) []bool {
	l := make([]bool, 0, n)
	for len(l) < n {
		row := 1
		if r.Intn(8) == 0 {
			row += r.Intn(most)
		}
		job := r.Intn(100) < ofHundred
		for range row {
			l = append(l, job)
		}
	}
	return l[:n]
}

func TestNew(t *testing.T) { // P12.1, P12.2
	each(func(m, k int) {
		w := newWindow(t, m, k)
		if l := w.Last(); !slices.Equal(l, met(k)) {
			t.Errorf("New(%d, %d), Last: %v", m, k, l)
		}
		if w.Met() != k || w.Fails() || w.Distance() != k-m+1 {
			t.Errorf("New(%d, %d): %d, %v, %d", m, k, w.Met(), w.Fails(), w.Distance())
		}
		holds(t, w, newModel(m, k))
	})
}

func TestNewOfWrongNumbers(t *testing.T) { // P12.1
	for m := -3; m <= most+4; m++ {
		for k := -3; k <= most+4; k++ {
			w, e := New(m, k)
			if 1 <= m && m <= k && k <= most {
				if w == nil || e != api.OK {
					t.Errorf("New(%d, %d): %v, %d", m, k, w, e)
				}
			} else if w != nil || e != api.ErrArg {
				t.Errorf("New(%d, %d): %v, %d; want nil, ErrArg", m, k, w, e)
			}
		}
	}
}

func TestNewOfFarNumbers(t *testing.T) { // P12.1
	far := []int{math.MinInt, math.MinInt + 1, -1 << 32, -65, -64, -2, -1, 0, 65, 66, 128, 4096, 4097, 1 << 32, 1<<32 + 1, 1 << 40, math.MaxInt - 1, math.MaxInt}
	for _, n := range far {
		for _, other := range append([]int{1, 2, 63, 64}, far...) {
			for _, x := range [][2]int{{n, other}, {other, n}} {
				if w, e := New(x[0], x[1]); w != nil || e != api.ErrArg {
					t.Errorf("New(%d, %d): %v, %d; want nil, ErrArg", x[0], x[1], w, e)
				}
			}
		}
	}
}

func TestTheExample(t *testing.T) { // P12.2
	w := newWindow(t, 2, 3)
	for i, want := range []int{2, 1, 0} {
		if i > 0 {
			w.Push(false)
		}
		if n := w.Distance(); n != want || w.Fails() != (want == 0) {
			t.Errorf("behind %d misses: %d, %v; want %d", i, n, w.Fails(), want)
		}
	}
}

func TestWrittenOut(t *testing.T) { // P12.1, P12.2
	for _, x := range []struct {
		m, k          int
		pushed        string
		last          string
		met, distance int
	}{
		{1, 1, "", "1", 1, 1},
		{1, 1, "0", "0", 0, 0},
		{1, 1, "01", "1", 1, 1},
		{1, 2, "0", "10", 1, 1},
		{1, 2, "01", "01", 1, 2},
		{1, 2, "00", "00", 0, 0},
		{2, 2, "0", "10", 1, 0},
		{2, 2, "01", "01", 1, 0},
		{2, 2, "011", "11", 2, 1},
		{1, 3, "001", "001", 1, 3},
		{1, 3, "010", "010", 1, 2},
		{1, 3, "100", "100", 1, 1},
		{2, 4, "0110", "0110", 2, 2},
		{2, 4, "1001", "1001", 2, 1},
		{2, 4, "0011", "0011", 2, 3},
		{2, 4, "0101", "0101", 2, 2},
		{3, 5, "0101101", "01101", 3, 2},
		{3, 5, "1111100", "11100", 3, 1},
		{3, 5, "00111", "00111", 3, 3},
		{3, 5, "110001", "10001", 2, 0},
		{4, 5, "10111", "10111", 4, 1},
		{4, 5, "01111", "01111", 4, 2},
	} {
		w := newWindow(t, x.m, x.k)
		pushAll(w, jobs(x.pushed))
		if l := w.Last(); !slices.Equal(l, jobs(x.last)) {
			t.Errorf("%+v: Last: %v", x, l)
		}
		if w.Met() != x.met || w.Fails() != (x.met < x.m) || w.Distance() != x.distance {
			t.Errorf("%+v: %d, %v, %d", x, w.Met(), w.Fails(), w.Distance())
		}
	}
}

func TestAllWaysOfFewJobs(t *testing.T) { // P12.1, P12.2
	for k := 1; k <= 5; k++ {
		for m := 1; m <= k; m++ {
			for bits := range 1 << (2*k + 1) {
				w, x := newWindow(t, m, k), newModel(m, k)
				for i := range 2*k + 1 {
					job := bits>>i&1 == 1
					w.Push(job)
					x.push(job)
					holds(t, w, x)
				}
			}
		}
	}
}

func TestLongRuns(t *testing.T) { // P12.1, P12.2
	r := rand.New(rand.NewSource(12))
	each(func(m, k int) {
		w, x := newWindow(t, m, k), newModel(m, k)
		// So many are met that the window is now about to fail, now far from it, now failed.
		for _, often := range []int{min(100, 100*m/k+5), 95, 50, 5} {
			for _, job := range runs(r, 2*k+5, often) {
				w.Push(job)
				x.push(job)
				holds(t, w, x)
			}
		}
	})
}

func TestManyTimesK(t *testing.T) { // P12.1, P12.2: at the edges, far behind the first k jobs
	r := rand.New(rand.NewSource(121))
	for _, y := range append([][2]int{{2, 3}, {32, 64}, {33, 63}}, named...) {
		m, k := y[0], y[1]
		w, x := newWindow(t, m, k), newModel(m, k)
		for range 20 {
			for _, job := range runs(r, 3*k+1, r.Intn(101)) {
				w.Push(job)
				x.push(job)
				holds(t, w, x)
			}
		}
		for range 1000 * k {
			w.Push(false)
		}
		if w.Met() != 0 || !w.Fails() || w.Distance() != 0 || !slices.Equal(w.Last(), make([]bool, k)) {
			t.Errorf("(%d,%d), all missed: %d, %v, %d", m, k, w.Met(), w.Fails(), w.Distance())
		}
	}
}

func TestDistanceByPushingMisses(t *testing.T) { // P12.2
	r := rand.New(rand.NewSource(122))
	each(func(m, k int) {
		w := newWindow(t, m, k)
		for _, job := range append([]bool{true}, runs(r, k+5, min(100, 100*m/k+3))...) {
			w.Push(job)
			d := w.Distance()
			if n := misses(t, w, m, k); n != d {
				t.Fatalf("(%d,%d), Distance: %d; but it fails with %d misses behind %v", m, k, d, n, w.Last())
			}
			if d < 0 || d > k-m+1 || (d == 0) != w.Fails() {
				t.Fatalf("(%d,%d), Distance: %d, Fails: %v", m, k, d, w.Fails())
			}
		}
	})
}

func TestAsManyMissesAsTheDistance(t *testing.T) { // P12.2: and one fewer
	each(func(m, k int) {
		for _, ahead := range []int{0, 1, k - 1, k, k + 1, 5 * k} {
			w := newWindow(t, m, k)
			pushAll(w, met(ahead))
			d := w.Distance()
			for n := range d {
				if w.Fails() || w.Distance() != d-n {
					t.Fatalf("(%d,%d), behind %d misses of %d: %v, %d", m, k, n, d, w.Fails(), w.Distance())
				}
				w.Push(false)
			}
			if !w.Fails() || w.Distance() != 0 || w.Met() != m-1 {
				t.Fatalf("(%d,%d), behind all %d misses: %v, %d, %d", m, k, d, w.Fails(), w.Distance(), w.Met())
			}
		}
	})
}

func TestTheDistancesOfTheEdges(t *testing.T) { // P12.2: a new window's, behind a miss, behind two
	for _, x := range []struct{ m, k, first, second, third int }{
		{1, 1, 1, 0, 0},
		{1, most, 64, 63, 62},
		{most, most, 1, 0, 0},
		{most - 1, most, 2, 1, 0},
	} {
		w := newWindow(t, x.m, x.k)
		for i, want := range []int{x.first, x.second, x.third} {
			if n := w.Distance(); n != want || w.Fails() != (want == 0) {
				t.Errorf("(%d,%d), behind %d misses: %d, %v; want %d", x.m, x.k, i, n, w.Fails(), want)
			}
			w.Push(false)
		}
	}
}

func TestBehindAMiss(t *testing.T) { // P12.3
	r := rand.New(rand.NewSource(123))
	each(func(m, k int) {
		w := newWindow(t, m, k)
		for range 4 {
			for _, job := range runs(r, k+3, min(100, 100*m/k+r.Intn(10))) {
				before := w.Distance()
				w.Push(job)
				if job {
					continue
				}
				// It fails just where the distance was 1, or where it had failed.
				if w.Fails() != (before <= 1) {
					t.Fatalf("(%d,%d), a miss at the distance %d: %v", m, k, before, w.Fails())
				}
				if n := w.Distance(); n != max(before-1, 0) {
					t.Fatalf("(%d,%d), behind a miss: %d; ahead of it %d", m, k, n, before)
				}
			}
		}
	})
}

func TestBehindKThatAreMet(t *testing.T) { // P12.3
	r := rand.New(rand.NewSource(124))
	each(func(m, k int) {
		for _, ahead := range [][]bool{make([]bool, k), make([]bool, 3*k+1), runs(r, 2*k, 50), runs(r, k, 90)} {
			w := newWindow(t, m, k)
			pushAll(w, ahead)
			pushAll(w, met(k))
			if w.Fails() || w.Distance() != newWindow(t, m, k).Distance() || w.Met() != k || !slices.Equal(w.Last(), met(k)) {
				t.Fatalf("(%d,%d), behind k met ones: %v, %d, %d", m, k, w.Fails(), w.Distance(), w.Met())
			}
		}
	})
}

func TestAskingChangesNothing(t *testing.T) { // P12.1, P12.2
	r := rand.New(rand.NewSource(125))
	for range 2000 {
		k := 1 + r.Intn(most)
		m := 1 + r.Intn(k)
		w, x := newWindow(t, m, k), newModel(m, k)
		for _, job := range runs(r, r.Intn(3*k), 75) {
			w.Push(job)
			x.push(job)
			// Whatever is asked between two jobs, and however often.
			for range r.Intn(4) {
				switch r.Intn(4) {
				case 0:
					w.Met()
				case 1:
					w.Fails()
				case 2:
					w.Distance()
				case 3:
					w.Last()
				}
			}
		}
		holds(t, w, x)
		holds(t, w, x)
	}
}

func TestTwoWindowsSideBySide(t *testing.T) { // P12.1: neither touches the other
	r := rand.New(rand.NewSource(126))
	for range 500 {
		k := 1 + r.Intn(most)
		m := 1 + r.Intn(k)
		other := 1 + r.Intn(k)
		a, x := newWindow(t, m, k), newModel(m, k)
		b, y := newWindow(t, other, k), newModel(other, k)
		still, none := newWindow(t, m, k), newModel(m, k)
		for _, job := range runs(r, 2*k, 60) {
			if r.Intn(2) == 0 {
				a.Push(job)
				x.push(job)
			} else {
				b.Push(!job)
				y.push(!job)
			}
			holds(t, a, x)
			holds(t, b, y)
		}
		holds(t, still, none)
		holds(t, newWindow(t, m, k), none)
	}
}

func TestLastIsNewMemory(t *testing.T) { // P12.4
	r := rand.New(rand.NewSource(127))
	each(func(m, k int) {
		for _, ahead := range []int{0, 1, k - 1, k, k + 1, 2*k + r.Intn(k)} {
			w, x := newWindow(t, m, k), newModel(m, k)
			for _, job := range runs(r, ahead, 70) {
				w.Push(job)
				x.push(job)
			}
			before, changed := w.Last(), w.Last()
			want := slices.Clone(before)
			// All that stands in its memory, behind its end too.
			whole := changed[:cap(changed)]
			for i := range whole {
				whole[i] = !want[i%k]
			}
			_ = append(changed, true, false)
			holds(t, w, x)
			if !slices.Equal(before, want) {
				t.Fatalf("(%d,%d): the list that was answered ahead changed: %v; want %v", m, k, before, want)
			}
		}
	})
}

func TestLastStaysBehindAPush(t *testing.T) { // P12.4
	r := rand.New(rand.NewSource(128))
	for _, y := range append([][2]int{{2, 3}, {10, 20}}, named...) {
		m, k := y[0], y[1]
		w, x := newWindow(t, m, k), newModel(m, k)
		var answered, wants [][]bool
		for _, job := range runs(r, 5*k, 60) {
			answered = append(answered, w.Last())
			wants = append(wants, slices.Clone(x.last()))
			w.Push(job)
			x.push(job)
		}
		for i, l := range answered {
			if !slices.Equal(l, wants[i]) {
				t.Fatalf("(%d,%d), the list behind %d jobs: %v; want %v", m, k, i, l, wants[i])
			}
		}
	}
}

func TestAWindowThatNewDidNotMake(t *testing.T) { // P1: nothing is promised of it but that it panics nowhere
	var w Window
	w.Push(true)
	w.Push(false)
	if w.Met() != 0 || w.Fails() || w.Distance() != 0 || len(w.Last()) != 0 {
		t.Errorf("%d, %v, %d, %v", w.Met(), w.Fails(), w.Distance(), w.Last())
	}
}
