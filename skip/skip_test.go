package skip

import (
	"math"
	"math/rand"
	"sync"
	"testing"

	"pendulum/api"
	"pendulum/pattern"
)

const most = 64 // of (m,k)

var kinds = []int{api.Even, api.Deep}

// named are the (m,k) that the chapters name as edges.
var named = [][2]int{{1, 1}, {1, most}, {most, most}, {most - 1, most}}

// each goes through all right patterns.
func each(do func(kind, m, k int)) {
	for _, kind := range kinds {
		for k := 1; k <= most; k++ {
			for m := 1; m <= k; m++ {
				do(kind, m, k)
			}
		}
	}
}

// model is a skipper as plainly as can be: all jobs, with k met ones ahead of them.
type model struct {
	kind, m, k int
	all        []bool
	chosen     int // how many of the jobs so far the pattern says must be
	failed     int
}

func newModel(kind, m, k int) *model {
	x := &model{kind: kind, m: m, k: k}
	for range k {
		x.all = append(x.all, true)
	}
	return x
}

func (x *model) jobs() int { return len(x.all) - x.k }

// told is whether the pattern says that the next job must be.
func (x *model) told() bool {
	if x.kind == api.Deep {
		return x.jobs()%x.k < x.m
	}
	// Among one job more there are as many as it has, times m by k, rounded up.
	return x.chosen*x.k < (x.jobs()+1)*x.m
}

// lost is whether fewer than m of the last k are met, if so many more are missed.
func (x *model) lost(more int) bool {
	met := 0
	for _, job := range x.all[min(len(x.all), len(x.all)-x.k+more):] {
		if job {
			met++
		}
	}
	return met < x.m
}

func (x *model) must() bool { return x.told() || x.lost(1) }

func (x *model) distance() int {
	misses := 0
	for !x.lost(misses) {
		misses++
	}
	return misses
}

func (x *model) push(met bool) {
	if x.told() {
		x.chosen++
	}
	x.all = append(x.all, met)
	if x.lost(0) {
		x.failed++
	}
}

func newSkipper(t *testing.T, kind, m, k int) *Skipper {
	t.Helper()
	s, e := New(kind, m, k)
	if e != api.OK || s == nil {
		t.Fatalf("New(%d, %d, %d): %v, %d", kind, m, k, s, e)
	}
	return s
}

// holds asks a skipper of all that it tells, against the model.
func holds(t *testing.T, s *Skipper, x *model) {
	t.Helper()
	if s.Must() != x.must() {
		t.Fatalf("kind %d, (%d,%d), job %d: Must: %v; the pattern says %v, the distance is %d", x.kind, x.m, x.k, x.jobs(), s.Must(), x.told(), x.distance())
	}
	if s.Jobs() != x.jobs() || s.Distance() != x.distance() || s.Failed() != x.failed {
		t.Fatalf("kind %d, (%d,%d): Jobs %d, Distance %d, Failed %d; want %d, %d, %d",
			x.kind, x.m, x.k, s.Jobs(), s.Distance(), s.Failed(), x.jobs(), x.distance(), x.failed)
	}
}

// both tells the skipper and the model of one more job.
func both(t *testing.T, s *Skipper, x *model, met bool) {
	t.Helper()
	s.Push(met)
	x.push(met)
	holds(t, s, x)
}

// runs is a run of jobs, of which about so many of a hundred are met, and some of which come in long rows.
func runs(r *rand.Rand, n, ofHundred int) []bool {
	l := make([]bool, 0, n)
	for len(l) < n {
		row := 1
		if r.Intn(8) == 0 {
			row += r.Intn(most)
		}
		job := r.Intn(100) < ofHundred
		for range row {
			l = append(l, job)
		}
	}
	return l[:n]
}

// way says how a job goes that needn't be.
type way struct {
	name string
	met  func() bool
}

func ways(r *rand.Rand) []way {
	return []way{
		{"all missed", func() bool { return false }},
		{"all met", func() bool { return true }},
		{"mixed", func() bool { return r.Intn(2) == 0 }},
		{"few met", func() bool { return r.Intn(10) == 0 }},
		{"few missed", func() bool { return r.Intn(10) != 0 }},
	}
}

func TestNew(t *testing.T) { // P13.1
	each(func(kind, m, k int) {
		s := newSkipper(t, kind, m, k)
		if s.Jobs() != 0 || s.Failed() != 0 || s.Distance() != k-m+1 || !s.Must() {
			t.Errorf("New(%d, %d, %d): %d, %d, %d, %v", kind, m, k, s.Jobs(), s.Failed(), s.Distance(), s.Must())
		}
		holds(t, s, newModel(kind, m, k))
	})
}

func TestNewOfWrongPatterns(t *testing.T) { // P13.1
	for kind := -5; kind <= 10; kind++ {
		for m := -3; m <= most+4; m++ {
			for k := -3; k <= most+4; k++ {
				s, e := New(kind, m, k)
				if (kind == 1 || kind == 2) && 1 <= m && m <= k && k <= 64 {
					if s == nil || e != api.OK {
						t.Errorf("New(%d, %d, %d): %v, %d", kind, m, k, s, e)
					}
				} else if s != nil || e != api.ErrArg {
					t.Errorf("New(%d, %d, %d): %v, %d; want nil, ErrArg", kind, m, k, s, e)
				}
			}
		}
	}
}

func TestNewOfFarNumbers(t *testing.T) { // P13.1
	refused := func(kind, m, k int) {
		t.Helper()
		if s, e := New(kind, m, k); s != nil || e != api.ErrArg {
			t.Errorf("New(%d, %d, %d): %v, %d; want nil, ErrArg", kind, m, k, s, e)
		}
	}
	far := []int{math.MinInt, math.MinInt + 1, -1 << 32, -65, -64, -2, -1, 0, 65, 66, 128, 4096, 4097, 1 << 32, 1<<32 + 1, 1 << 40, math.MaxInt - 1, math.MaxInt}
	for _, n := range far {
		for _, other := range append([]int{1, 2, 63, 64}, far...) {
			for _, kind := range kinds {
				refused(kind, n, other)
				refused(kind, other, n)
			}
			refused(n, other, 64)
			refused(n, 1, other)
		}
	}
	for _, kind := range []int{math.MinInt, -2, -1, 0, 3, 4, 255, 257, 258, 1<<32 + 1, 1<<32 + 2, math.MaxInt} {
		each(func(_, m, k int) { refused(kind, m, k) })
	}
}

func TestTheExample(t *testing.T) { // P13.1
	s := newSkipper(t, api.Even, 1, 2)
	for n := range 100 {
		if s.Must() != (n%2 == 0) {
			t.Fatalf("job %d: %v", n, s.Must())
		}
		// Those that needn't be are missed.
		s.Push(s.Must())
	}
	if s.Jobs() != 100 || s.Failed() != 0 {
		t.Errorf("Jobs %d, Failed %d; want 100, 0", s.Jobs(), s.Failed())
	}
}

// told is a job as it is written out: must it be, how did it go, and what the skipper tells behind it.
type told struct {
	must, met        bool
	distance, failed int
}

func TestWrittenOut(t *testing.T) { // P13.1
	const y, n = true, false
	for _, x := range []struct {
		kind, m, k int
		jobs       []told
	}{
		// No job needs to be but by the pattern; then one does by the distance, and all while the window fails.
		{api.Even, 1, 2, []told{{y, y, 2, 0}, {n, n, 1, 0}, {y, n, 0, 1}, {y, n, 0, 2}, {y, y, 2, 2}, {n, y, 2, 2}, {y, y, 2, 2}, {n, y, 2, 2}, {y, n, 1, 2}, {y, y, 2, 2}}},
		// At the distances 2, 1 and 0 the pattern says of the jobs 1, 2 and 4 that they needn't be.
		{api.Deep, 1, 3, []told{{y, n, 2, 0}, {n, n, 1, 0}, {y, n, 0, 1}, {y, n, 0, 2}, {y, n, 0, 3}, {y, y, 3, 3}, {y, y, 3, 3}, {n, n, 2, 3}, {n, n, 1, 3}, {y, y, 3, 3}}},
		{api.Even, 1, 3, []told{{y, n, 2, 0}, {n, n, 1, 0}, {y, y, 3, 0}, {y, n, 2, 0}, {n, n, 1, 0}, {y, n, 0, 1}, {y, n, 0, 2}, {y, y, 3, 2}, {n, y, 3, 2}}},
		{api.Deep, 2, 4, []told{{y, y, 3, 0}, {y, y, 3, 0}, {n, n, 2, 0}, {n, n, 1, 0}, {y, y, 1, 0}, {y, n, 0, 1}, {y, y, 2, 1}, {n, y, 3, 1}, {y, y, 3, 1}, {y, n, 2, 1}, {n, n, 1, 1}, {y, n, 0, 2}}},
		{api.Even, 2, 4, []told{{y, y, 3, 0}, {n, n, 2, 0}, {y, y, 2, 0}, {n, n, 1, 0}, {y, n, 0, 1}, {y, n, 0, 2}, {y, y, 0, 3}, {y, y, 3, 3}, {y, n, 2, 3}, {n, n, 1, 3}}},
		{api.Deep, 2, 3, []told{{y, y, 2, 0}, {y, y, 2, 0}, {n, n, 1, 0}, {y, y, 1, 0}, {y, n, 0, 1}, {y, y, 1, 1}, {y, n, 0, 2}, {y, n, 0, 3}, {y, n, 0, 4}, {y, y, 0, 5}, {y, y, 2, 5}, {n, y, 2, 5}}},
		{api.Even, 1, 1, []told{{y, n, 0, 1}, {y, n, 0, 2}, {y, y, 1, 2}, {y, y, 1, 2}, {y, n, 0, 3}}},
		{api.Deep, 1, 1, []told{{y, y, 1, 0}, {y, n, 0, 1}, {y, y, 1, 1}}},
	} {
		s := newSkipper(t, x.kind, x.m, x.k)
		for i, job := range x.jobs {
			if s.Must() != job.must {
				t.Errorf("kind %d, (%d,%d), job %d: Must: %v", x.kind, x.m, x.k, i, s.Must())
			}
			s.Push(job.met)
			if s.Jobs() != i+1 || s.Distance() != job.distance || s.Failed() != job.failed {
				t.Errorf("kind %d, (%d,%d), behind job %d: %d, %d, %d; want %+v", x.kind, x.m, x.k, i, s.Jobs(), s.Distance(), s.Failed(), job)
			}
		}
	}
}

func TestAllWaysOfFewJobs(t *testing.T) { // P13.1
	for _, kind := range kinds {
		for k := 1; k <= 5; k++ {
			for m := 1; m <= k; m++ {
				for bits := range 1 << (2*k + 2) {
					s, x := newSkipper(t, kind, m, k), newModel(kind, m, k)
					for i := range 2*k + 2 {
						both(t, s, x, bits>>i&1 == 1)
					}
				}
			}
		}
	}
}

func TestLongRuns(t *testing.T) { // P13.1
	r := rand.New(rand.NewSource(13))
	each(func(kind, m, k int) {
		s, x := newSkipper(t, kind, m, k), newModel(kind, m, k)
		// So many are met that the window is now about to fail, now far from it, now failed.
		for _, often := range []int{min(100, 100*m/k+5), 95, 50, 5} {
			for _, met := range runs(r, k+5, often) {
				both(t, s, x, met)
			}
		}
	})
}

func TestManyTimesK(t *testing.T) { // P13.1: at the edges, far behind the first k jobs
	r := rand.New(rand.NewSource(131))
	for _, y := range append([][2]int{{1, 2}, {2, 3}, {32, 64}, {33, 63}, {7, 17}}, named...) {
		for _, kind := range kinds {
			m, k := y[0], y[1]
			s, x := newSkipper(t, kind, m, k), newModel(kind, m, k)
			for range 20 {
				for _, met := range runs(r, 3*k+1, r.Intn(101)) {
					both(t, s, x, met)
				}
			}
		}
	}
}

func TestThePatternGoesByTheNumber(t *testing.T) { // P13.1: whatever went ahead
	r := rand.New(rand.NewSource(132))
	each(func(kind, m, k int) {
		s := newSkipper(t, kind, m, k)
		for range r.Intn(3 * k) {
			s.Push(r.Intn(3) > 0)
		}
		// With k that are met the distance is above 1 again, but of hard ones.
		for range k {
			s.Push(true)
		}
		for range 2 * k {
			if must := pattern.Must(kind, s.Jobs(), m, k); s.Must() != must {
				t.Fatalf("kind %d, (%d,%d), job %d behind k met ones: %v", kind, m, k, s.Jobs(), !must)
			}
			s.Push(true)
		}
	})
}

func TestTheDistanceAsks(t *testing.T) { // P13.1: where the pattern says that a job needn't be
	r := rand.New(rand.NewSource(139))
	each(func(kind, m, k int) {
		if m == k {
			return
		}
		// The last job of each k needn't be, of Even and of Deep; two more are looked for.
		free := []int{k - 1, 2*k - 1}
		for n := r.Intn(k); len(free) < 4; n++ {
			if !pattern.Must(kind, n, m, k) {
				free = append(free, n)
			}
		}
		for _, n := range free {
			for d := range min(4, k-m+1) {
				s := newSkipper(t, kind, m, k)
				misses := k - m + 1 - d
				// So many are met ahead that the misses end at the job that is looked at.
				for range 2*k + n - misses {
					s.Push(true)
				}
				for range misses {
					s.Push(false)
				}
				if pattern.Must(kind, s.Jobs(), m, k) || s.Jobs() != 2*k+n || s.Distance() != d {
					t.Fatalf("kind %d, (%d,%d): the test looks at job %d, at the distance %d; not at %d, %d", kind, m, k, s.Jobs(), s.Distance(), 2*k+n, d)
				}
				if s.Must() != (d <= 1) {
					t.Fatalf("kind %d, (%d,%d), job %d at the distance %d: %v", kind, m, k, s.Jobs(), d, s.Must())
				}
			}
		}
	})
}

func TestFailsOn(t *testing.T) { // P13.1: each Push counts behind which the window fails, and no other
	each(func(kind, m, k int) {
		s := newSkipper(t, kind, m, k)
		for n := 1; n <= 3*k; n++ {
			s.Push(false)
			if want := max(0, n-(k-m)); s.Failed() != want || s.Distance() != max(0, k-m+1-n) {
				t.Fatalf("kind %d, (%d,%d), behind %d misses: Failed %d, Distance %d; want %d", kind, m, k, n, s.Failed(), s.Distance(), want)
			}
			if n > k-m && !s.Must() {
				t.Fatalf("kind %d, (%d,%d), behind %d misses: it needn't be", kind, m, k, n)
			}
		}
		// It fails up to the m-th that is met.
		failed := s.Failed()
		for n := 1; n <= 2*k; n++ {
			s.Push(true)
			if want := failed + min(n, m-1); s.Failed() != want {
				t.Fatalf("kind %d, (%d,%d), with %d met behind: Failed %d; want %d", kind, m, k, n, s.Failed(), want)
			}
		}
		// And from here on anew.
		failed = s.Failed()
		for range k - m + 2 {
			s.Push(false)
		}
		if s.Failed() != failed+2 || s.Jobs() != 6*k-m+2 {
			t.Fatalf("kind %d, (%d,%d): Failed %d, Jobs %d; want %d, %d", kind, m, k, s.Failed(), s.Jobs(), failed+2, 6*k-m+2)
		}
	})
}

func TestTheEdges(t *testing.T) { // P13.1: the first jobs that must be, where all that needn't are missed
	for _, x := range []struct {
		kind, m, k int
		must       func(n int) bool
	}{
		{api.Even, 1, 1, func(int) bool { return true }},
		{api.Deep, 1, 1, func(int) bool { return true }},
		{api.Even, 1, most, func(n int) bool { return n%most == 0 }},
		{api.Deep, 1, most, func(n int) bool { return n%most == 0 }},
		{api.Even, most, most, func(int) bool { return true }},
		{api.Deep, most, most, func(int) bool { return true }},
		{api.Even, most - 1, most, func(n int) bool { return n%most != most-1 }},
		{api.Deep, most - 1, most, func(n int) bool { return n%most != most-1 }},
	} {
		s := newSkipper(t, x.kind, x.m, x.k)
		for n := range 10 * x.k {
			if s.Must() != x.must(n) {
				t.Fatalf("kind %d, (%d,%d), job %d: %v", x.kind, x.m, x.k, n, s.Must())
			}
			s.Push(s.Must())
			if s.Jobs() != n+1 || s.Failed() != 0 || s.Distance() < 1 {
				t.Fatalf("kind %d, (%d,%d), behind job %d: %d, %d, %d", x.kind, x.m, x.k, n, s.Jobs(), s.Failed(), s.Distance())
			}
		}
	}
}

func TestMetWhereTheyMustBeItNeverFails(t *testing.T) { // P13.2
	r := rand.New(rand.NewSource(133))
	for _, w := range ways(r) {
		each(func(kind, m, k int) {
			s, x := newSkipper(t, kind, m, k), newModel(kind, m, k)
			in := k // of the last k, with those ahead of the first job
			for n := range 5*k + 3 {
				met := s.Must() || w.met()
				if s.Must() != x.must() {
					t.Fatalf("%s, kind %d, (%d,%d), job %d: Must: %v", w.name, kind, m, k, n, s.Must())
				}
				s.Push(met)
				x.push(met)
				if met {
					in++
				}
				if x.all[n] {
					in--
				}
				if in < m || s.Failed() != 0 || s.Distance() < 1 {
					t.Fatalf("%s, kind %d, (%d,%d), behind job %d: %d of the last k met, Failed %d, Distance %d", w.name, kind, m, k, n, in, s.Failed(), s.Distance())
				}
			}
		})
	}
}

func TestMetWhereTheyMustBeOfAnyKJobs(t *testing.T) { // P13.2: counted of the jobs alone
	r := rand.New(rand.NewSource(134))
	for _, w := range ways(r) {
		for _, y := range append([][2]int{{1, 2}, {1, 3}, {2, 3}, {2, 4}, {3, 7}, {5, 7}, {16, 48}, {32, 64}, {33, 63}}, named...) {
			for _, kind := range kinds {
				m, k := y[0], y[1]
				s := newSkipper(t, kind, m, k)
				var l []bool
				for range 12*k + 5 {
					l = append(l, s.Must() || w.met())
					s.Push(l[len(l)-1])
				}
				for from := range len(l) - k + 1 {
					met := 0
					for _, job := range l[from : from+k] {
						if job {
							met++
						}
					}
					if met < m {
						t.Fatalf("%s, kind %d, (%d,%d): of the %d jobs from %d on %d were met", w.name, kind, m, k, k, from, met)
					}
				}
			}
		}
	}
}

func TestAllWaysOfFewThatNeedNotBe(t *testing.T) { // P13.2
	for _, kind := range kinds {
		for k := 1; k <= 5; k++ {
			for m := 1; m <= k; m++ {
				for bits := range 1 << 12 {
					s, x := newSkipper(t, kind, m, k), newModel(kind, m, k)
					for i := range 12 {
						both(t, s, x, s.Must() || bits>>i&1 == 1)
					}
					if s.Failed() != 0 || x.failed != 0 {
						t.Fatalf("kind %d, (%d,%d): failed %d times with %v", kind, m, k, s.Failed(), x.all[k:])
					}
				}
			}
		}
	}
}

func TestItNeverFailsAnewBehindWhatMustBe(t *testing.T) { // P13.2: wherever a window that doesn't fail stands
	r := rand.New(rand.NewSource(135))
	each(func(kind, m, k int) {
		s := newSkipper(t, kind, m, k)
		for range r.Intn(3 * k) {
			s.Push(r.Intn(2) == 0)
		}
		// Up to k that are met it takes until the window doesn't fail.
		for n := 0; n < k && s.Distance() == 0; n++ {
			s.Push(true)
		}
		failed := s.Failed()
		for range 3 * k {
			s.Push(s.Must() || r.Intn(6) == 0)
		}
		if s.Failed() != failed {
			t.Fatalf("kind %d, (%d,%d): it failed %d times though all that must be was met", kind, m, k, s.Failed()-failed)
		}
	})
}

func TestHardOnesAlwaysMustBe(t *testing.T) { // P13.2
	r := rand.New(rand.NewSource(136))
	for _, kind := range kinds {
		for k := 1; k <= most; k++ {
			for _, often := range []int{100, 97, 50, 0} {
				s := newSkipper(t, kind, k, k)
				for n, met := range runs(r, 4*k+3, often) {
					if !s.Must() {
						t.Fatalf("kind %d, (%d,%d): job %d needn't be", kind, k, k, n)
					}
					s.Push(met)
				}
				if !s.Must() {
					t.Fatalf("kind %d, (%d,%d): the next job needn't be", kind, k, k)
				}
			}
		}
	}
}

func TestAskingChangesNothing(t *testing.T) { // P13.1
	r := rand.New(rand.NewSource(137))
	for range 2000 {
		k := 1 + r.Intn(most)
		m, kind := 1+r.Intn(k), kinds[r.Intn(2)]
		s, never, x := newSkipper(t, kind, m, k), newSkipper(t, kind, m, k), newModel(kind, m, k)
		for _, met := range runs(r, r.Intn(3*k), 75) {
			s.Push(met)
			never.Push(met)
			x.push(met)
			// Whatever is asked between two jobs, and however often.
			for range r.Intn(5) {
				switch r.Intn(4) {
				case 0:
					s.Must()
				case 1:
					s.Jobs()
				case 2:
					s.Distance()
				case 3:
					s.Failed()
				}
			}
		}
		holds(t, s, x)
		holds(t, s, x)
		holds(t, never, x)
	}
}

func TestTwoSkippersSideBySide(t *testing.T) { // P13.1: neither touches the other
	r := rand.New(rand.NewSource(138))
	for range 500 {
		k := 1 + r.Intn(most)
		m, kind := 1+r.Intn(k), kinds[r.Intn(2)]
		a, x := newSkipper(t, kind, m, k), newModel(kind, m, k)
		// The other one is of the same pattern, or of another.
		if r.Intn(2) == 0 {
			k = 1 + r.Intn(most)
			m, kind = 1+r.Intn(k), kinds[r.Intn(2)]
		}
		b, y := newSkipper(t, kind, m, k), newModel(kind, m, k)
		for _, met := range runs(r, 3*most, 70) {
			switch r.Intn(5) {
			case 0:
				both(t, b, y, !met)
				holds(t, a, x)
			case 1:
				// One that is refused leaves nothing behind.
				New(kind, k+1, k)
			default:
				both(t, a, x, met)
				holds(t, b, y)
			}
		}
	}
}

func TestSkippersAtOnce(t *testing.T) { // P1
	var all sync.WaitGroup
	for seed := range 8 {
		all.Go(func() {
			r := rand.New(rand.NewSource(int64(seed)))
			s, e := New(kinds[seed%2], 5, 9)
			if e != api.OK {
				t.Error(e)
				return
			}
			x := newModel(kinds[seed%2], 5, 9)
			for range 2000 {
				met := r.Intn(3) > 0
				s.Push(met)
				x.push(met)
				if s.Must() != x.must() || s.Jobs() != x.jobs() || s.Distance() != x.distance() || s.Failed() != x.failed {
					t.Errorf("behind %d jobs it isn't as it is alone", x.jobs())
					return
				}
			}
		})
	}
	all.Wait()
}

func TestASkipperOfNoPatternDoesNotPanic(t *testing.T) { // P1
	var s Skipper
	for range 3 {
		s.Must()
		s.Push(true)
		s.Push(false)
		s.Distance()
		s.Failed()
		s.Jobs()
	}
}
