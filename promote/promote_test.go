package promote

import (
	"math"
	"math/big"
	"math/rand"
	"slices"
	"sync"
	"testing"

	"pendulum/api"
)

const lastTime = 1 << 40

var (
	// far are numbers of jobs, in order: any int may be one.
	far = []int{math.MinInt, math.MinInt + 1, -lastTime, -2, -1, 0, 1, 2, lastTime, math.MaxInt - 1, math.MaxInt}
	// edges are numbers of ticks, right and wrong ones.
	edges = []int{math.MinInt, math.MinInt + 1, -lastTime - 1, -lastTime, -64, -2, -1, 0, 1, 2, 3, 63, 64, 65, 1 << 20, 1<<32 + 1,
		lastTime - 65, lastTime - 64, lastTime - 2, lastTime - 1, lastTime, lastTime + 1, 2 * lastTime, 1<<62 - 1, 1 << 62, 1<<62 + 1, math.MaxInt - 1, math.MaxInt}
	// rooms are some that a promoter may have.
	rooms = []int{1, 2, 3, 17, 63, 64, 65, 100, 1023, 1024}
)

// job is what is told of a job that is to wait.
type job struct{ id, release, d, r int }

// promotion tells when a job is promoted, and whether there is such a time, by numbers without bounds: its deadline lies d behind its release, and r ahead of that it is promoted.
func promotion(j job) (int, bool) {
	deadline := new(big.Int).Add(big.NewInt(int64(j.release)), big.NewInt(int64(j.d)))
	at := new(big.Int).Sub(deadline, big.NewInt(int64(j.r)))
	wrong := j.r <= 0 || j.r > j.d || j.release < 0 || j.release > lastTime || at.Cmp(big.NewInt(lastTime)) > 0
	if wrong {
		return 0, false
	}
	return int(at.Int64()), true
}

// kept is a job that waits.
type kept struct{ at, id int }

// model is a promoter as plainly as can be: a list of the jobs that wait, as they came.
type model struct {
	room, now int
	list      []kept
}

func (m *model) has(id int) bool {
	return slices.ContainsFunc(m.list, func(k kept) bool { return k.id == id })
}

func (m *model) wait(j job) (int, api.Errno) {
	at, ok := promotion(j)
	switch {
	case !ok || at < m.now:
		return 0, api.ErrArg
	case m.has(j.id):
		return 0, api.ErrTwice
	case len(m.list) == m.room:
		return 0, api.ErrFull
	}
	m.list = append(m.list, kept{at, j.id})
	return at, api.OK
}

func (m *model) drop(id int) bool {
	there := m.has(id)
	m.list = slices.DeleteFunc(m.list, func(k kept) bool { return k.id == id })
	return there
}

func (m *model) advance(now int) ([]int, api.Errno) {
	if now < m.now || now > lastTime {
		return nil, api.ErrArg
	}
	var come, left []kept
	for _, k := range m.list {
		if k.at > now {
			left = append(left, k)
		} else {
			come = append(come, k)
		}
	}
	m.now, m.list = now, left
	return inOrder(come), api.OK
}

// inOrder are the numbers of jobs, in order of their times, then themselves.
func inOrder(l []kept) []int {
	l = slices.SortedFunc(slices.Values(l), func(a, b kept) int { return slices.Compare([]int{a.at, a.id}, []int{b.at, b.id}) })
	var ids []int
	for _, k := range l {
		ids = append(ids, k.id)
	}
	return ids
}

func newPromoter(t *testing.T, room int) *Promoter {
	t.Helper()
	p, e := New(room)
	if e != api.OK || p == nil {
		t.Fatalf("New(%d): %v, %d", room, p, e)
	}
	return p
}

func wait(t *testing.T, p *Promoter, j job, want int) {
	t.Helper()
	if at, e := p.Wait(j.id, j.release, j.d, j.r); at != want || e != api.OK {
		t.Fatalf("Wait(%d, %d, %d, %d): %d, %d; want %d, OK", j.id, j.release, j.d, j.r, at, e, want)
	}
}

func refuses(t *testing.T, p *Promoter, j job, want api.Errno) {
	t.Helper()
	if at, e := p.Wait(j.id, j.release, j.d, j.r); at != 0 || e != want {
		t.Fatalf("Wait(%d, %d, %d, %d): %d, %d; want 0, %d", j.id, j.release, j.d, j.r, at, e, want)
	}
}

func drop(t *testing.T, p *Promoter, id int, want bool) {
	t.Helper()
	if ok := p.Drop(id); ok != want {
		t.Fatalf("Drop(%d): %v; want %v", id, ok, want)
	}
}

// promotes holds that just these jobs are promoted by a time.
func promotes(t *testing.T, p *Promoter, now int, want ...int) {
	t.Helper()
	if l, e := p.Advance(now); e != api.OK || !slices.Equal(l, want) {
		t.Fatalf("Advance(%d): %v, %d; want %v, OK", now, l, e, want)
	}
}

func stays(t *testing.T, p *Promoter, now int) {
	t.Helper()
	if l, e := p.Advance(now); e != api.ErrArg || len(l) != 0 {
		t.Fatalf("Advance(%d): %v, %d; want nothing, ErrArg", now, l, e)
	}
}

func waiting(t *testing.T, p *Promoter, want int) {
	t.Helper()
	if n := p.Waiting(); n != want {
		t.Fatalf("Waiting: %d; want %d", n, want)
	}
}

// ends holds that these jobs are all that wait: they are promoted by MaxTick, and none behind them.
func ends(t *testing.T, p *Promoter, want ...int) {
	t.Helper()
	waiting(t, p, len(want))
	promotes(t, p, lastTime, want...)
	waiting(t, p, 0)
	promotes(t, p, lastTime)
}

// pair is a promoter and the model that it is held against.
type pair struct {
	p *Promoter
	m *model
}

func newPair(t *testing.T, room int) pair {
	t.Helper()
	return pair{newPromoter(t, room), &model{room: room}}
}

func (x pair) wait(t *testing.T, j job) {
	t.Helper()
	want, wantE := x.m.wait(j)
	if at, e := x.p.Wait(j.id, j.release, j.d, j.r); at != want || e != wantE {
		t.Fatalf("at %d: Wait(%d, %d, %d, %d): %d, %d; want %d, %d", x.m.now, j.id, j.release, j.d, j.r, at, e, want, wantE)
	}
	x.counts(t)
}

func (x pair) drop(t *testing.T, id int) {
	t.Helper()
	drop(t, x.p, id, x.m.drop(id))
	x.counts(t)
}

func (x pair) advance(t *testing.T, now int) {
	t.Helper()
	was := x.m.now
	want, wantE := x.m.advance(now)
	if l, e := x.p.Advance(now); e != wantE || !slices.Equal(l, want) {
		t.Fatalf("from %d: Advance(%d): %v, %d; want %v, %d", was, now, l, e, want, wantE)
	}
	x.counts(t)
}

func (x pair) counts(t *testing.T) {
	t.Helper()
	waiting(t, x.p, len(x.m.list))
}

// ends goes on from promotion to promotion, till none waits.
func (x pair) ends(t *testing.T) {
	t.Helper()
	for len(x.m.list) > 0 {
		next := slices.MinFunc(x.m.list, func(a, b kept) int { return a.at - b.at })
		if next.at > x.m.now {
			x.advance(t, next.at-1)
		}
		x.advance(t, next.at)
	}
	x.advance(t, lastTime)
}

// step is what is asked of a promoter.
type step struct {
	kind int
	job
	now int
}

const (
	waits = iota
	drops
	advances
)

// take takes a step at times that are so much later.
func (x pair) take(t *testing.T, s step, base int) {
	t.Helper()
	switch s.kind {
	case waits:
		s.release += base
		x.wait(t, s.job)
	case drops:
		x.drop(t, s.id)
	case advances:
		x.advance(t, base+s.now)
	}
}

// crowd are so many jobs of all kinds of promotions up to a most one, many at one time, and their numbers in no order.
func crowd(n, most int) []job {
	var l []job
	for i := range n {
		at := i * 37 * max(most/2000, 1) % (most + 1)
		release := at * (i % 4) / 3
		r := 1 + i%9
		l = append(l, job{i*101%1031 - 500, release, at - release + r, r})
	}
	return l
}

// keep are the jobs as they wait.
func keep(jobs []job) []kept {
	var l []kept
	for _, j := range jobs {
		at, _ := promotion(j)
		l = append(l, kept{at, j.id})
	}
	return l
}

// filled is a promoter with room for so many, in which these jobs wait.
func filled(t *testing.T, room int, jobs ...job) *Promoter {
	t.Helper()
	p := newPromoter(t, room)
	for i, k := range keep(jobs) {
		wait(t, p, jobs[i], k.at)
	}
	return p
}

func without(l []int, id int) []int {
	return slices.DeleteFunc(slices.Clone(l), func(n int) bool { return n == id })
}

func TestOffset(t *testing.T) { // P17.1
	for d := -3; d <= 70; d++ {
		for r := -3; r <= 74; r++ {
			// The offset is what it takes from the response time up to the deadline, counted tick by tick.
			want, wantOk := 0, false
			for n := 0; r >= 1 && r+n <= d; n++ {
				want, wantOk = n, true
			}
			if n, ok := Offset(d, r); n != want || ok != wantOk {
				t.Fatalf("Offset(%d, %d): %d, %v; want %d, %v", d, r, n, ok, want, wantOk)
			}
		}
	}
}

func TestOffsetOfEdges(t *testing.T) { // P17.1, P1
	for _, d := range edges {
		for _, r := range edges {
			if r < 1 || r > d {
				if n, ok := Offset(d, r); n != 0 || ok {
					t.Errorf("Offset(%d, %d): %d, %v; want 0, false", d, r, n, ok)
				}
				continue
			}
			want := new(big.Int).Sub(big.NewInt(int64(d)), big.NewInt(int64(r)))
			if n, ok := Offset(d, r); !ok || big.NewInt(int64(n)).Cmp(want) != 0 {
				t.Errorf("Offset(%d, %d): %d, %v; want %v, true", d, r, n, ok, want)
			}
		}
	}
	for _, x := range []struct{ d, r, want int }{{1, 1, 0}, {20, 5, 15}, {20, 20, 0}, {20, 1, 19}, {1 << 20, 1, 1<<20 - 1}, {math.MaxInt, math.MaxInt, 0}, {math.MaxInt, 1, math.MaxInt - 1}} {
		if n, ok := Offset(x.d, x.r); n != x.want || !ok {
			t.Errorf("Offset(%d, %d): %d, %v; want %d, true", x.d, x.r, n, ok, x.want)
		}
	}
	for _, x := range []struct{ d, r int }{{20, 0}, {20, -1}, {20, 21}, {20, math.MinInt}, {20, math.MaxInt}, {1, 2}, {0, 0}, {0, 1}, {-1, -1}, {-1, 1}, {-5, -9}, {math.MinInt, 1}, {math.MinInt, math.MinInt}, {math.MinInt, math.MaxInt}, {math.MaxInt, 0}, {math.MaxInt, math.MinInt}, {math.MaxInt - 1, math.MaxInt}} {
		if n, ok := Offset(x.d, x.r); n != 0 || ok {
			t.Errorf("Offset(%d, %d): %d, %v; want 0, false", x.d, x.r, n, ok)
		}
	}
}

func TestNew(t *testing.T) { // P17.1
	for room := 1; room <= 1024; room++ {
		p := newPromoter(t, room)
		waiting(t, p, 0)
		for _, id := range far {
			drop(t, p, id, false)
		}
		stays(t, p, -1)
		promotes(t, p, 0)
		// It is at the time 0: what is promoted then may wait.
		wait(t, p, job{1, 0, 4, 4}, 0)
		promotes(t, p, 0, 1)
		ends(t, p)
	}
}

func TestNewOfWrongRooms(t *testing.T) { // P17.1
	for _, room := range []int{0, -1, -2, -64, -1024, 1025, 1026, 2048, 1 << 16, 1 << 32, 1<<32 + 1, math.MinInt, math.MinInt + 1, math.MaxInt - 1, math.MaxInt} {
		if p, e := New(room); p != nil || e != api.ErrArg {
			t.Errorf("New(%d): %v, %d; want nil, ErrArg", room, p, e)
		}
	}
}

func TestTheExample(t *testing.T) { // P17.1, P17.2
	p := newPromoter(t, 1)
	wait(t, p, job{3, 10, 20, 5}, 25)
	promotes(t, p, 24)
	waiting(t, p, 1)
	promotes(t, p, 25, 3)
	ends(t, p)
}

func TestEachRoom(t *testing.T) { // P17.1
	for _, room := range rooms {
		p := newPromoter(t, room)
		jobs := crowd(room, 300)
		for i, j := range jobs {
			waiting(t, p, i)
			at, _ := promotion(j)
			wait(t, p, j, at)
		}
		full := job{5000, 1, 9, 3}
		// A full promoter refuses each other job, whenever it would be promoted, and those that wait, as they wait.
		for _, id := range []int{5000, -5000, math.MinInt, math.MaxInt} {
			for _, release := range []int{0, 1, 63, 64, 299, 301, lastTime} {
				refuses(t, p, job{id, release, 7, 7}, api.ErrFull)
			}
		}
		for _, j := range jobs {
			refuses(t, p, j, api.ErrTwice)
			refuses(t, p, job{j.id, 1, 9, 3}, api.ErrTwice)
			refuses(t, p, job{j.id, 1, 9, 10}, api.ErrArg)
		}
		refuses(t, p, job{5000, 0, 9, 0}, api.ErrArg)
		refuses(t, p, job{5000, lastTime, 9, 8}, api.ErrArg)
		// One that goes makes room for one, and for no more.
		gone := jobs[room/2]
		drop(t, p, gone.id, true)
		waiting(t, p, room-1)
		wait(t, p, full, 7)
		refuses(t, p, gone, api.ErrFull)
		left := append(slices.Delete(slices.Clone(jobs), room/2, room/2+1), full)
		// And so do those that are promoted.
		m := &model{room: room, list: keep(left)}
		come, _ := m.advance(100)
		promotes(t, p, 100, come...)
		for i := range come {
			wait(t, p, job{6000 + i, 100, 3, 3}, 100)
			m.list = append(m.list, kept{100, 6000 + i})
		}
		refuses(t, p, job{7000, 100, 3, 3}, api.ErrFull)
		ends(t, p, inOrder(m.list)...)
	}
}

// At each time of a promoter, jobs of all edges: each alone, into an empty promoter.
func TestWaitOfAllEdges(t *testing.T) { // P17.1, P1
	for _, now := range []int{0, 1, 2, 64, 1 << 20, lastTime - 1, lastTime} {
		x := newPair(t, 1)
		x.advance(t, now)
		for _, release := range edges {
			for _, d := range edges {
				for _, r := range edges {
					j := job{7, release, d, r}
					x.wait(t, j)
					x.drop(t, 7)
				}
			}
		}
		ends(t, x.p)
	}
}

// All edges once more, of jobs that wait already and in a full promoter, which tells what is wrong with the times first.
func TestWaitTellsTheFirstError(t *testing.T) { // P17.1
	for _, now := range []int{0, 3, 64, lastTime - 64} {
		some, full := newPair(t, 3), newPair(t, 2)
		for _, x := range []pair{some, full} {
			x.advance(t, now)
			x.wait(t, job{7, now, 2, 1})
			x.wait(t, job{8, now, 5, 5})
		}
		for _, release := range edges {
			for _, d := range edges {
				for _, r := range edges {
					some.wait(t, job{7, release, d, r})
					full.wait(t, job{8, release, d, r})
					full.wait(t, job{9, release, d, r})
				}
			}
		}
		some.ends(t)
		full.ends(t)
	}
}

func TestWaitOfWrongJobs(t *testing.T) { // P17.1
	const now = 100
	wrongs := []job{
		{0, now, 9, 0}, {0, now, 9, -1}, {0, now, 9, math.MinInt}, {0, now, 9, 10}, {0, now, 9, math.MaxInt}, // no offset
		{0, now, 0, 0}, {0, now, 0, 1}, {0, now, -1, -1}, {0, now, -1, -2}, {0, now, math.MinInt, math.MinInt}, {0, now, math.MinInt, 1}, {0, now, math.MinInt, math.MaxInt},
		{0, -1, 900, 1}, {0, -1, 900, 900}, {0, -lastTime, 2 * lastTime, 5}, {0, math.MinInt, math.MaxInt, 1}, {0, math.MinInt, 9, 3}, // no release
		{0, lastTime + 1, 9, 9}, {0, lastTime + 1, 9, 3}, {0, 1 << 62, 9, 9}, {0, 1<<62 + 1, 9, 9}, {0, math.MaxInt, 9, 9}, {0, math.MaxInt, 9, 1}, {0, math.MaxInt, math.MaxInt, 1},
		{0, now - 1, 9, 9}, {0, now - 8, 9, 2}, {0, 0, now, 1}, {0, 0, 9, 9}, {0, 0, 1, 1}, // a time that has gone by
		{0, lastTime, 9, 8}, {0, lastTime, math.MaxInt, 1}, {0, lastTime - 7, 9, 1}, {0, now, lastTime, 1}, {0, 0, lastTime + 2, 1}, {0, now, math.MaxInt, 1}, // a time above MaxTick
	}
	for _, w := range wrongs {
		x := newPair(t, 3)
		x.advance(t, now)
		for n := range 4 {
			// Ahead of all other errors: of a job that waits already, and of a full promoter, too.
			for _, id := range []int{0, 1, 2, 3, -1, math.MinInt, math.MaxInt} {
				w.id = id
				refuses(t, x.p, w, api.ErrArg)
			}
			x.counts(t)
			if n < 3 {
				x.wait(t, job{n, now + 5, 9, 3 + 3*n})
			}
		}
		refuses(t, x.p, job{3, now, 9, 9}, api.ErrFull)
		x.ends(t)
	}
}

func TestAtThePromotersTime(t *testing.T) { // P17.1, P17.2
	for _, now := range []int{0, 1, 2, 63, 64, 65, 1000, lastTime - 1, lastTime} {
		p := newPromoter(t, 4)
		promotes(t, p, now)
		// By releases, and by offsets: at the promoter's time, and one ahead of it.
		wait(t, p, job{4, now, 3, 3}, now)
		wait(t, p, job{1, 0, now + 2, 2}, now)
		if now > 0 {
			wait(t, p, job{2, now - 1, 3, 2}, now)
			refuses(t, p, job{3, now - 1, 3, 3}, api.ErrArg)
			refuses(t, p, job{3, 0, now + 1, 2}, api.ErrArg)
			promotes(t, p, now, 1, 2, 4)
		} else {
			refuses(t, p, job{3, -1, 3, 3}, api.ErrArg)
			refuses(t, p, job{3, -1, 3, 2}, api.ErrArg)
			promotes(t, p, now, 1, 4)
		}
		// Again and again, at one time.
		for range 3 {
			wait(t, p, job{4, now, 3, 3}, now)
			refuses(t, p, job{4, now, 3, 3}, api.ErrTwice)
			promotes(t, p, now, 4)
			promotes(t, p, now)
		}
		ends(t, p)
	}
}

func TestAtMaxTick(t *testing.T) { // P17.1, P17.2
	for _, x := range []struct {
		job
		at int
	}{
		{job{1, lastTime, 5, 5}, lastTime}, {job{1, lastTime, 1, 1}, lastTime}, {job{1, lastTime, math.MaxInt, math.MaxInt}, lastTime},
		{job{1, 0, lastTime + 1, 1}, lastTime}, {job{1, 0, lastTime, 1}, lastTime - 1}, {job{1, 0, math.MaxInt, math.MaxInt - lastTime}, lastTime},
		{job{1, lastTime - 9, 10, 1}, lastTime}, {job{1, lastTime - 9, 10, 2}, lastTime - 1}, {job{1, lastTime - 1, 2, 1}, lastTime}, {job{1, lastTime - 1, 2, 2}, lastTime - 1},
	} {
		p := newPromoter(t, 1)
		wait(t, p, x.job, x.at)
		promotes(t, p, x.at-1)
		waiting(t, p, 1)
		promotes(t, p, x.at, 1)
		ends(t, p)
	}
	for _, j := range []job{{1, lastTime, 5, 4}, {1, lastTime, 2, 1}, {1, lastTime + 1, 5, 5}, {1, 0, lastTime + 2, 1}, {1, lastTime - 9, 11, 1}, {1, lastTime - 1, 3, 1}, {1, 0, math.MaxInt, math.MaxInt - lastTime - 1}, {1, 1, math.MaxInt, math.MaxInt - lastTime}} {
		p := newPromoter(t, 1)
		refuses(t, p, j, api.ErrArg)
		ends(t, p)
	}
}

func TestAdvanceAroundAPromotion(t *testing.T) { // P17.2
	for _, from := range []int{0, 1, 63, 64, 1000, lastTime - 401} {
		for by := 1; by <= 200; by++ {
			j := job{9, from, by + 4, 4}
			// To the time at which it stands, to the time just ahead of the promotion, and to it.
			p := newPromoter(t, 2)
			promotes(t, p, from)
			wait(t, p, j, from+by)
			promotes(t, p, from)
			promotes(t, p, from+by-1)
			waiting(t, p, 1)
			promotes(t, p, from+by, 9)
			waiting(t, p, 0)
			promotes(t, p, from+by)
			// Beyond it, by less and by more than the wheel's places.
			for _, more := range []int{0, 1, 2, 63, 64, 65, 128, 200} {
				p := newPromoter(t, 2)
				promotes(t, p, from)
				wait(t, p, j, from+by)
				wait(t, p, job{8, from, by + more + 2, 1}, from+by+more+1)
				promotes(t, p, from+by+more, 9)
				waiting(t, p, 1)
				promotes(t, p, from+by+more+1, 8)
				ends(t, p)
			}
		}
	}
}

func TestAdvanceFar(t *testing.T) { // P17.2
	for _, by := range []int{64, 65, 1000, 1 << 20, 1 << 32, lastTime - 300} {
		jobs := crowd(200, by+250)
		x := newPair(t, 200)
		for _, j := range jobs {
			x.wait(t, j)
		}
		x.advance(t, by)
		x.advance(t, by)
		x.advance(t, by+64)
		x.ends(t)
		x = newPair(t, 200)
		for _, j := range jobs {
			x.wait(t, j)
		}
		x.advance(t, lastTime)
		x.counts(t)
	}
}

func TestAdvanceToWrongTimes(t *testing.T) { // P17.2
	for _, now := range []int{0, 1, 5, 63, 64, 65, 1000, lastTime - 1, lastTime} {
		p := newPromoter(t, 3)
		promotes(t, p, now)
		stays(t, p, now-1)
		wait(t, p, job{4, now, 3, 3}, now)
		wait(t, p, job{-4, now, 1, 1}, now)
		wait(t, p, job{8, lastTime, 3, 3}, lastTime)
		for _, to := range []int{now - 1, now - 2, now - 64, now - 65, -1, -64, -lastTime, math.MinInt, math.MinInt + 1, lastTime + 1, lastTime + 64, 2 * lastTime, 1 << 62, math.MaxInt} {
			stays(t, p, to)
			waiting(t, p, 3)
			// Nothing has changed: the time neither.
			refuses(t, p, job{9, now - 1, 1, 1}, api.ErrArg)
			refuses(t, p, job{4, now, 1, 1}, api.ErrTwice)
		}
		left := []int{-4, 4, 8}
		if now < lastTime {
			promotes(t, p, now, -4, 4)
			left = []int{8}
		}
		ends(t, p, left...)
	}
}

// orders calls f with each order of the jobs.
func orders(jobs []job, f func([]job)) {
	var lay func(done, left []job)
	lay = func(done, left []job) {
		if len(left) == 0 {
			f(done)
		}
		for i, j := range left {
			lay(append(slices.Clone(done), j), slices.Delete(slices.Clone(left), i, i+1))
		}
	}
	lay(nil, jobs)
}

func TestInEachOrder(t *testing.T) { // P17.2
	for _, jobs := range [][]job{
		{{-3, 0, 9, 4}, {-1, 5, 6, 6}, {0, 1, 5, 1}, {2, 4, 100, 99}, {7, 3, 3, 1}, {11, 5, 1, 1}}, // all at 5
		{{5, 0, 1, 1}, {4, 0, 2, 1}, {3, 0, 3, 1}, {2, 1, 3, 1}, {1, 4, 1, 1}, {0, 0, 6, 1}},       // 0 to 5, the numbers fall
		{{9, 6, 3, 3}, {3, 0, 71, 1}, {8, 69, 2, 1}, {1, 134, 6, 6}, {2, 100, 35, 1}, {-5, 198, 1, 1}},
		{{1, lastTime - 64, 9, 9}, {-9, lastTime - 1, 1, 1}, {9, 0, lastTime, 1}, {-8, lastTime, 5, 5}, {-7, lastTime - 9, 10, 1}, {6, 0, lastTime + 1, 1}},
	} {
		want := inOrder(keep(jobs))
		orders(jobs, func(l []job) {
			ends(t, filled(t, len(l), l...), want...)
			x := newPair(t, len(l))
			for _, j := range l {
				x.wait(t, j)
			}
			x.ends(t)
		})
	}
}

func TestFarNumbers(t *testing.T) { // P17.1, P17.2, P1
	r := rand.New(rand.NewSource(17))
	for range 60 {
		p := newPromoter(t, len(far))
		for _, i := range r.Perm(len(far)) {
			drop(t, p, far[i], false)
			wait(t, p, job{far[i], i, 60 - i, 20}, 40)
			refuses(t, p, job{far[i], i, 60 - i, 20}, api.ErrTwice)
		}
		promotes(t, p, 39)
		promotes(t, p, 40, far...)
		ends(t, p)
	}
	for _, id := range far {
		p := newPromoter(t, len(far))
		for _, other := range far {
			wait(t, p, job{other, 40, 3, 3}, 40)
		}
		drop(t, p, id, true)
		drop(t, p, id, false)
		ends(t, p, without(far, id)...)
	}
}

func TestRoomForAllAtOneTime(t *testing.T) { // P17.1, P17.2
	for _, at := range []int{0, 5, 63, 64, lastTime} {
		p := newPromoter(t, 1024)
		var want []int
		for i := range 1024 {
			offset := min(at, i%7)
			wait(t, p, job{i*5%1024 - 512, at - offset, offset + 1 + i%3, 1 + i%3}, at)
			want = append(want, i-512)
		}
		refuses(t, p, job{512, at, 1, 1}, api.ErrFull)
		if at > 0 {
			promotes(t, p, at-1)
		}
		waiting(t, p, 1024)
		promotes(t, p, at, want...)
		ends(t, p)
	}
}

func TestWaitTwice(t *testing.T) { // P17.1
	for _, id := range far {
		p := newPromoter(t, 3)
		wait(t, p, job{id, 60, 20, 10}, 70)
		for _, at := range []int{0, 5, 6, 69, 70, 71, 134, lastTime} {
			refuses(t, p, job{id, at, 4, 4}, api.ErrTwice)
			refuses(t, p, job{id, 0, at + 1, 1}, api.ErrTwice)
			waiting(t, p, 1)
		}
		// What was refused took no room, and changed no time.
		wait(t, p, job{50, 6, 4, 4}, 6)
		wait(t, p, job{51, 71, 4, 4}, 71)
		// In a full promoter, too.
		for _, other := range []int{id, 50, 51} {
			refuses(t, p, job{other, 3, 4, 4}, api.ErrTwice)
		}
		promotes(t, p, 6, 50)
		promotes(t, p, 69)
		promotes(t, p, 70, id)
		ends(t, p, 51)
	}
}

func TestWaitAgain(t *testing.T) { // P17.1, P17.2
	p := newPromoter(t, 1)
	now := 0
	for i := range 400 {
		at := now + i%70
		wait(t, p, job{5, now, i%70 + 3, 3}, at)
		refuses(t, p, job{5, at, 3, 3}, api.ErrTwice)
		refuses(t, p, job{6, at, 3, 3}, api.ErrFull)
		waiting(t, p, 1)
		if i%3 == 0 {
			drop(t, p, 5, true)
			waiting(t, p, 0)
			continue
		}
		promotes(t, p, at, 5)
		drop(t, p, 5, false)
		waiting(t, p, 0)
		now = at
	}
	// Dropped, it waits again at another time, ahead of and behind the one that it had.
	p = newPromoter(t, 2)
	wait(t, p, job{5, 0, 30, 10}, 20)
	wait(t, p, job{6, 0, 30, 10}, 20)
	drop(t, p, 5, true)
	wait(t, p, job{5, 0, 30, 25}, 5)
	promotes(t, p, 5, 5)
	wait(t, p, job{5, 0, 94, 10}, 84)
	promotes(t, p, 20, 6)
	promotes(t, p, 83)
	ends(t, p, 5)
}

func TestDrop(t *testing.T) { // P17.2
	// Of one time, of one place of the wheel, alone, first and last.
	jobs := []job{{4, 0, 3, 3}, {-1, 6, 2, 2}, {3, 2, 5, 1}, {9, 0, 9, 3}, {1, 7, 1, 1}, {2, 60, 7, 3}, {8, 0, 75, 5}, {0, 134, 1, 1}, {7, lastTime, 4, 4}}
	for _, a := range jobs {
		for _, b := range jobs {
			x := newPair(t, 12)
			for _, j := range jobs {
				x.wait(t, j)
			}
			x.drop(t, a.id)
			drop(t, x.p, a.id, false)
			x.drop(t, b.id)
			x.advance(t, 6)
			x.drop(t, b.id)
			x.ends(t)
		}
	}
}

func TestDropOfWhatDoesNotWait(t *testing.T) { // P17.2
	jobs := crowd(40, 200)
	for _, n := range []int{0, 1, 2, 40} {
		x := newPair(t, 40)
		for _, j := range jobs[:n] {
			x.wait(t, j)
		}
		ids := slices.Clone(far)
		for _, j := range jobs {
			// Neither a time nor a deadline is a number of a job.
			ids = append(ids, j.release, j.d, j.r)
		}
		for _, j := range jobs[n:] {
			ids = append(ids, j.id)
		}
		for _, id := range ids {
			if !x.m.has(id) {
				drop(t, x.p, id, false)
				x.counts(t)
			}
		}
		x.ends(t)
		// What was promoted doesn't wait any more.
		for _, j := range jobs[:n] {
			drop(t, x.p, j.id, false)
		}
		waiting(t, x.p, 0)
	}
}

// All jobs are dropped, in several orders, and wait again.
func TestDropTillNoneIsLeft(t *testing.T) { // P17.2
	for _, n := range rooms {
		jobs := crowd(n, 500)
		p := newPromoter(t, n)
		for round := range 3 {
			for _, j := range jobs {
				at, _ := promotion(j)
				wait(t, p, j, at)
			}
			for i := range jobs {
				drop(t, p, jobs[[]int{i, n - 1 - i, (i + n/2) % n}[round]].id, true)
				waiting(t, p, n-1-i)
			}
		}
		ends(t, p)
	}
}

// What is dropped is never promoted, and the others are as if it had never waited.
func TestOthersArePromotedAsTheyWould(t *testing.T) { // P17.2
	for seed := range int64(80) {
		r := rand.New(rand.NewSource(seed))
		all, few := newPromoter(t, 200), newPromoter(t, 200)
		jobs := crowd(200, []int{10, 70, 300, 5000}[seed%4])
		var dropped []int
		for _, j := range jobs {
			at, _ := promotion(j)
			wait(t, all, j, at)
			if r.Intn(3) == 0 {
				dropped = append(dropped, j.id)
				continue
			}
			wait(t, few, j, at)
		}
		for i := range dropped {
			other := r.Intn(i + 1)
			dropped[i], dropped[other] = dropped[other], dropped[i]
		}
		for _, id := range dropped {
			drop(t, all, id, true)
		}
		waiting(t, all, few.Waiting())
		for now := 0; now < 5100; now += 1 + r.Intn(200) {
			want, _ := few.Advance(now)
			promotes(t, all, now, want...)
			for _, id := range want {
				if slices.Contains(dropped, id) {
					t.Fatalf("%d was dropped, and is promoted", id)
				}
			}
		}
		want, _ := few.Advance(lastTime)
		ends(t, all, want...)
	}
}

func TestAllWaysOfFewSteps(t *testing.T) { // P17.1, P17.2
	var steps []step
	for id := 1; id <= 3; id++ {
		steps = append(steps, step{kind: drops, job: job{id: id}})
		for _, j := range []job{{id, 0, 3, 3}, {id, 0, 3, 2}, {id, 1, 3, 1}, {id, 2, 3, 4}} {
			steps = append(steps, step{kind: waits, job: j})
		}
	}
	for now := range 4 {
		steps = append(steps, step{kind: advances, now: now})
	}
	var ways func(done []step)
	ways = func(done []step) {
		for room := 1; room <= 2; room++ {
			x := newPair(t, room)
			for _, s := range done {
				x.take(t, s, 0)
			}
			x.ends(t)
		}
		if len(done) == 4 {
			return
		}
		for _, s := range steps {
			ways(append(slices.Clone(done), s))
		}
	}
	ways(nil)
}

// chance is a step of a small world, ahead of, at and behind a time.
func chance(r *rand.Rand, ids, now int) step {
	switch id := r.Intn(ids) - ids/2; r.Intn(8) {
	case 0:
		return step{kind: drops, job: job{id: id}}
	case 1, 2:
		by := []int{-1, 0, 1, 2, 5, 63, 64, 65, 130}[r.Intn(9)]
		return step{kind: advances, now: now + by}
	default:
		d := 1 + r.Intn(90)
		return step{kind: waits, job: job{id, now - 20 + r.Intn(60), d, r.Intn(d + 2)}}
	}
}

func TestChance(t *testing.T) { // P17.1, P17.2
	for i, base := range []int{0, 0, 1, 7, 64, 1 << 20, 1 << 32, lastTime - 900, lastTime - 90, lastTime - 1} {
		for _, room := range []int{1, 2, 3, 5, 8, 20, 64, 1024} {
			for _, ids := range []int{2, 5, 30, 300} {
				r := rand.New(rand.NewSource(int64(10000*i + 10*room + ids)))
				x := newPair(t, room)
				x.advance(t, base)
				for range 250 {
					x.take(t, chance(r, ids, x.m.now-base), base)
				}
				x.ends(t)
			}
		}
	}
}

func TestLongRun(t *testing.T) { // P17.1, P17.2
	r := rand.New(rand.NewSource(1717))
	x := newPair(t, 1024)
	for range 20000 {
		x.take(t, chance(r, 2000, x.m.now), 0)
	}
	x.ends(t)
}

// In whichever steps the time goes on, the same jobs are promoted, in the same order.
func TestInMixedSteps(t *testing.T) { // P17.2
	r := rand.New(rand.NewSource(93))
	for range 200 {
		most := []int{10, 64, 200, 3000, lastTime}[r.Intn(5)]
		jobs := crowd(1+r.Intn(200), most)
		want := inOrder(keep(jobs))
		p := filled(t, len(jobs), jobs...)
		var come []int
		for now := 0; now <= most; now += r.Intn(most/3 + 2) {
			l, e := p.Advance(now)
			if e != api.OK {
				t.Fatal(e)
			}
			come = append(come, l...)
			waiting(t, p, len(jobs)-len(come))
		}
		l, _ := p.Advance(lastTime)
		if come = append(come, l...); !slices.Equal(come, want) {
			t.Fatalf("%v; want %v", come, want)
		}
	}
}

// Jobs wait from their releases on, tick by tick: each is promoted just when its response time is left to its deadline, and never ahead of its release.
func TestWhatIsLeftToTheDeadline(t *testing.T) { // P17.3
	for _, base := range []int{0, 5, 64, 1 << 32, lastTime - 60} {
		p := newPromoter(t, 1024)
		promotes(t, p, base)
		var jobs []job
		for release := range 9 {
			for d := 1; d <= 14; d++ {
				for r := 1; r <= d; r++ {
					jobs = append(jobs, job{len(jobs), base + release, d, r})
				}
			}
		}
		promoted := make([]bool, len(jobs))
		for now := base; now < base+40; now++ {
			for _, j := range jobs {
				if j.release == now {
					wait(t, p, j, now+j.d-j.r)
				}
			}
			l, e := p.Advance(now)
			if e != api.OK {
				t.Fatal(e)
			}
			for _, id := range l {
				j := jobs[id]
				if left := j.release + j.d - now; left != j.r || now < j.release || promoted[id] {
					t.Fatalf("%v is promoted at %d, with %d ticks left to its deadline", j, now, left)
				}
				promoted[id] = true
			}
		}
		if i := slices.Index(promoted, false); i >= 0 {
			t.Fatalf("%v isn't promoted", jobs[i])
		}
		ends(t, p)
	}
}

// In longer steps a job comes with the step in which its response time is all that is left: with more of it left at the step's beginning, and no more than it at the end.
func TestWhatIsLeftInLongerSteps(t *testing.T) { // P17.3
	jobs := crowd(300, 400)
	slices.SortFunc(jobs, func(a, b job) int { return a.id - b.id })
	for _, by := range []int{1, 2, 3, 7, 31, 63, 64, 65, 128, 401} {
		p := filled(t, 300, jobs...)
		count := 0
		for now := 0; now < 900; now += by {
			l, e := p.Advance(now)
			if e != api.OK {
				t.Fatal(e)
			}
			for _, id := range l {
				i, _ := slices.BinarySearchFunc(jobs, id, func(j job, id int) int { return j.id - id })
				j := jobs[i]
				deadline := j.release + j.d
				if deadline-now > j.r || now > 0 && deadline-(now-by) <= j.r || now < j.release {
					t.Fatalf("%v is promoted from %d to %d", j, now-by, now)
				}
				count++
			}
		}
		if count != 300 {
			t.Fatalf("%d are promoted", count)
		}
	}
}

// The time that Wait answers is the one at which Advance promotes the job.
func TestWaitTellsWhenItIsPromoted(t *testing.T) { // P17.1, P17.3
	for _, release := range []int{0, 1, 30, 1 << 20, lastTime - 70, lastTime} {
		for _, d := range []int{1, 2, 3, 64, 65, 70, 71, 72} {
			for r := 1; r <= d; r++ {
				p := newPromoter(t, 1)
				at, e := p.Wait(2, release, d, r)
				if e != api.OK {
					if e != api.ErrArg || release+d-r <= lastTime {
						t.Fatalf("Wait(2, %d, %d, %d): %d", release, d, r, e)
					}
					continue
				}
				if at < release || release+d-at != r {
					t.Fatalf("Wait(2, %d, %d, %d): %d", release, d, r, at)
				}
				if at > 0 {
					promotes(t, p, at-1)
				}
				promotes(t, p, at, 2)
			}
		}
	}
}

// spoil writes into a list, and behind it as far as its memory goes.
func spoil(l []int) {
	l = l[:cap(l)]
	for i := range l {
		l[i] = -99
	}
}

func TestWhatIsAnsweredIsNew(t *testing.T) { // P17.4
	for _, by := range []int{1, 5, 64, 65, 200} {
		for _, n := range []int{1, 2, 5, 64, 200} {
			jobs := crowd(n, 300)
			m := &model{room: n, list: keep(jobs)}
			p := filled(t, n, jobs...)
			var kept, copies [][]int
			for now := 0; now < 700; now += by {
				want, _ := m.advance(now)
				l, e := p.Advance(now)
				if e != api.OK || !slices.Equal(l, want) {
					t.Fatalf("Advance(%d): %v, %d; want %v, OK", now, l, e, want)
				}
				waiting(t, p, len(m.list))
				if now%3 == 0 {
					// Written into, it changes nothing that comes later.
					spoil(l)
					continue
				}
				kept, copies = append(kept, l), append(copies, slices.Clone(l))
				for i := range min(len(l), 3) {
					j := job{l[i] + 5000, now, 9 + i, 2}
					at, e := m.wait(j)
					if e != api.OK {
						t.Fatal(j, e)
					}
					wait(t, p, j, at)
				}
			}
			// And what comes later changes nothing of it.
			for i := range kept {
				if !slices.Equal(kept[i], copies[i]) {
					t.Fatalf("%v; it was %v", kept[i], copies[i])
				}
			}
		}
	}
}

func TestPromotersSideBySide(t *testing.T) { // P17.1, P17.2
	r := rand.New(rand.NewSource(9))
	list := []pair{newPair(t, 1), newPair(t, 4), newPair(t, 4), newPair(t, 1024)}
	for range 3000 {
		x := list[r.Intn(len(list))]
		x.take(t, chance(r, 12, x.m.now), 0)
		for _, x := range list {
			x.counts(t)
		}
	}
	for _, x := range list {
		x.ends(t)
	}
	// The same job in each.
	p, q := newPromoter(t, 1), newPromoter(t, 1)
	wait(t, p, job{1, 10, 20, 5}, 25)
	wait(t, q, job{1, 10, 20, 5}, 25)
	promotes(t, p, 25, 1)
	waiting(t, q, 1)
	promotes(t, q, 24)
	drop(t, q, 1, true)
	wait(t, p, job{1, 25, 20, 5}, 40)
	ends(t, q)
	ends(t, p, 1)
}

// told are all answers of a promoter to a run of steps.
func told(seed int64) []int {
	r := rand.New(rand.NewSource(seed))
	p, e := New(50)
	l, now := []int{int(e)}, 0
	for range 3000 {
		switch s := chance(r, 80, now); s.kind {
		case waits:
			at, e := p.Wait(s.id, s.release, s.d, s.r)
			l = append(l, at, int(e))
		case drops:
			if p.Drop(s.id) {
				l = append(l, s.id)
			}
		case advances:
			ids, e := p.Advance(s.now)
			if e == api.OK {
				now = s.now
			}
			l = append(append(l, ids...), int(e))
		}
		l = append(l, p.Waiting())
	}
	return l
}

// Promoters that are asked at one time answer what each does alone.
func TestPromotersAtOneTime(t *testing.T) { // P17.1, P17.2
	var group sync.WaitGroup
	lists := make([][]int, 16)
	for i := range lists {
		group.Go(func() { lists[i] = told(int64(i / 2)) })
	}
	group.Wait()
	for i, l := range lists {
		if !slices.Equal(l, told(int64(i/2))) {
			t.Errorf("the run %d is told in two ways", i/2)
		}
	}
}

func TestTellingChangesNothing(t *testing.T) { // P17.2
	asked, left := newPair(t, 8), newPair(t, 8)
	r := rand.New(rand.NewSource(5))
	for range 2000 {
		s := chance(r, 12, asked.m.now)
		asked.take(t, s, 0)
		left.take(t, s, 0)
		for range 3 {
			asked.counts(t)
			Offset(s.d, s.r)
		}
	}
	asked.ends(t)
	left.ends(t)
}

// Jobs stand in the wheel that is embedded: what it tells is what the promoter does.
func TestTheWheelIsEmbedded(t *testing.T) {
	p := newPromoter(t, 3)
	wait(t, p, job{3, 10, 20, 5}, 25)
	wait(t, p, job{2, 10, 20, 20}, 10)
	if at, ok := p.Wheel.Next(); at != 10 || !ok || p.Wheel.Len() != 2 {
		t.Fatalf("Next: %d, %v; Len: %d", at, ok, p.Wheel.Len())
	}
	promotes(t, p, 24, 2)
	if at, ok := p.Next(); at != 25 || !ok || p.Now() != 24 || p.Len() != 1 {
		t.Fatalf("Next: %d, %v; Now: %d; Len: %d", at, ok, p.Now(), p.Len())
	}
}
