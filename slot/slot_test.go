package slot

import (
	"math"
	"math/rand"
	"slices"
	"testing"

	"pendulum/api"
)

const (
	longest  = 1 << 20 // of a slot
	lastTime = 1 << 40
)

var (
	// far are Ids and groups, in order: any int may be one.
	far = []int{math.MinInt, math.MinInt + 1, -lastTime, -2, -1, 0, 1, 2, lastTime, math.MaxInt - 1, math.MaxInt}
	// nowhere are ticks that no slot has.
	nowhere = []int{math.MinInt, math.MinInt + 1, -lastTime, -longest, -2, -1, lastTime, lastTime + 1, 2 * lastTime, math.MaxInt - 1, math.MaxInt}
)

// plainCompare compares slots as lists of what they are told by: what the table's order is held against.
func plainCompare(a, b api.Slot) int { return slices.Compare([]int{a.From, a.Id}, []int{b.From, b.Id}) }

func inOrder(l []api.Slot) []api.Slot {
	return slices.SortedFunc(slices.Values(l), plainCompare)
}

// kept is a slot of the model: all its ticks, one by one.
type kept struct {
	id, group int
	ticks     []int
}

// model is a table as plainly as can be: each place is tried by itself, tick by tick.
type model struct {
	room int
	list []kept
}

func (m *model) has(id int) bool {
	return slices.ContainsFunc(m.list, func(k kept) bool { return k.id == id })
}

func (m *model) taken(group, tick int) bool {
	return slices.ContainsFunc(m.list, func(k kept) bool { return k.group == group && slices.Contains(k.ticks, tick) })
}

// place answers all ticks of a place, and whether none of them is taken.
func (m *model) place(group, length, from int) ([]int, bool) {
	var ticks []int
	for tick := from; tick < from+length; tick++ {
		if m.taken(group, tick) {
			return nil, false
		}
		ticks = append(ticks, tick)
	}
	return ticks, true
}

func (m *model) reserve(id, group, length, from, to int) (int, api.Errno) {
	switch {
	case wrong(length, from, to):
		return 0, api.ErrArg
	case m.has(id):
		return 0, api.ErrTwice
	case len(m.list) == m.room:
		return 0, api.ErrFull
	}
	for at := to - length; at >= from; at-- {
		if ticks, ok := m.place(group, length, at); ok {
			m.list = append(m.list, kept{id, group, ticks})
			return at, api.OK
		}
	}
	return 0, api.ErrNone
}

func wrong(length, from, to int) bool {
	return length <= 0 || length > longest || from < 0 || to > lastTime || to < from
}

func (m *model) free(id int) api.Errno {
	if !m.has(id) {
		return api.ErrNone
	}
	m.list = slices.DeleteFunc(m.list, func(k kept) bool { return k.id == id })
	return api.OK
}

// slots are the model's slots in order.
func (m *model) slots() []api.Slot {
	var l []api.Slot
	for _, k := range m.list {
		l = append(l, api.Slot{Id: k.id, Group: k.group, From: k.ticks[0], To: k.ticks[0] + len(k.ticks)})
	}
	return inOrder(l)
}

// shifted are slots at times that are so much later.
func shifted(l []api.Slot, by int) []api.Slot {
	l = slices.Clone(l)
	for i := range l {
		l[i].From += by
		l[i].To += by
	}
	return l
}

func newTable(t *testing.T, room int) *Table {
	t.Helper()
	x, e := New(room)
	if e != api.OK || x == nil {
		t.Fatalf("New(%d): %v, %d", room, x, e)
	}
	return x
}

func reserve(t *testing.T, x *Table, id, group, length, from, to, want int) {
	t.Helper()
	if at, e := x.Reserve(id, group, length, from, to); at != want || e != api.OK {
		t.Fatalf("Reserve(%d, %d, %d, %d, %d): %d, %d; want %d, OK", id, group, length, from, to, at, e, want)
	}
}

func refuses(t *testing.T, x *Table, id, group, length, from, to int, want api.Errno) {
	t.Helper()
	if at, e := x.Reserve(id, group, length, from, to); at != 0 || e != want {
		t.Fatalf("Reserve(%d, %d, %d, %d, %d): %d, %d; want 0, %d", id, group, length, from, to, at, e, want)
	}
}

func free(t *testing.T, x *Table, id int, want api.Errno) {
	t.Helper()
	if e := x.Free(id); e != want {
		t.Fatalf("Free(%d): %d; want %d", id, e, want)
	}
}

// holdsAt holds what is told of a tick: those of the slots that have it.
func holdsAt(t *testing.T, x *Table, tick int, want []api.Slot) {
	t.Helper()
	if l := x.At(tick); !slices.Equal(l, want) {
		t.Fatalf("At(%d): %v; want %v", tick, l, want)
	}
	if n := x.Depth(tick); n != len(want) {
		t.Fatalf("Depth(%d): %d; want %d", tick, n, len(want))
	}
}

// having are those slots that have a tick.
func having(l []api.Slot, tick int) []api.Slot {
	var have []api.Slot
	for _, s := range l {
		if tick >= s.From && tick < s.To {
			have = append(have, s)
		}
	}
	return have
}

// holds asks a table of all that it tells: it has just these slots, which are in order.
func holds(t *testing.T, x *Table, want []api.Slot) {
	t.Helper()
	if l := x.All(); !slices.Equal(l, want) {
		t.Fatalf("All: %v; want %v", l, want)
	}
	for _, s := range want {
		for _, tick := range []int{s.From - 1, s.From, s.From + 1, (s.From + s.To) / 2, s.To - 1, s.To, s.To + 1} {
			holdsAt(t, x, tick, having(want, tick))
		}
	}
	for _, tick := range nowhere {
		holdsAt(t, x, tick, nil)
	}
}

// apart holds that slots of one group have no tick in common.
func apart(t *testing.T, l []api.Slot) {
	t.Helper()
	for i, a := range l {
		for _, b := range l[:i] {
			if a.Group == b.Group && max(a.From, b.From) < min(a.To, b.To) {
				t.Fatalf("%v and %v have a tick in common", a, b)
			}
		}
	}
}

// pair is a table and the model that it is held against.
type pair struct {
	x *Table
	m *model
}

func newPair(t *testing.T, room int) pair {
	t.Helper()
	return pair{newTable(t, room), &model{room: room}}
}

func (p pair) reserve(t *testing.T, id, group, length, from, to int) {
	t.Helper()
	was := p.m.slots()
	want, wantE := p.m.reserve(id, group, length, from, to)
	if at, e := p.x.Reserve(id, group, length, from, to); at != want || e != wantE {
		t.Fatalf("with %v: Reserve(%d, %d, %d, %d, %d): %d, %d; want %d, %d", was, id, group, length, from, to, at, e, want, wantE)
	}
}

func (p pair) free(t *testing.T, id int) {
	t.Helper()
	free(t, p.x, id, p.m.free(id))
}

// same holds the table's slots against the model's, and those of each tick up to a time against the model's ticks.
func (p pair) same(t *testing.T, from, to int) {
	t.Helper()
	want := p.m.slots()
	if l := p.x.All(); !slices.Equal(l, want) {
		t.Fatalf("All: %v; want %v", l, want)
	}
	apart(t, want)
	for tick := from - 2; tick <= to+2; tick++ {
		n := 0
		for _, k := range p.m.list {
			if slices.Contains(k.ticks, tick) {
				n++
			}
		}
		if d := p.x.Depth(tick); d != n {
			t.Fatalf("with %v: Depth(%d): %d; want %d", want, tick, d, n)
		}
		holdsAt(t, p.x, tick, having(want, tick))
	}
}

func TestNew(t *testing.T) { // P16.1, P16.2
	for _, room := range []int{1, 2, 3, 64, 100, 128, 255, 256} {
		x := newTable(t, room)
		holds(t, x, nil)
		for _, id := range far {
			free(t, x, id, api.ErrNone)
		}
		for _, tick := range []int{0, 1, 5, longest, lastTime - 1} {
			holdsAt(t, x, tick, nil)
		}
		holds(t, x, nil)
	}
}

func TestNewOfWrongRooms(t *testing.T) { // P16.1
	for _, room := range []int{0, -1, -2, -256, 257, 258, 512, 1024, 1 << 16, 1 << 32, 1<<32 + 1, math.MinInt, math.MinInt + 1, math.MaxInt} {
		if x, e := New(room); x != nil || e != api.ErrArg {
			t.Errorf("New(%d): %v, %d; want nil, ErrArg", room, x, e)
		}
	}
}

func TestTheExample(t *testing.T) { // P16.1
	x := newTable(t, 2)
	reserve(t, x, 1, 1, 3, 0, 10, 7)
	reserve(t, x, 2, 1, 3, 0, 10, 4)
	holds(t, x, []api.Slot{{Id: 2, Group: 1, From: 4, To: 7}, {Id: 1, Group: 1, From: 7, To: 10}})
}

func TestEachRoom(t *testing.T) { // P16.1, P16.3
	for room := 1; room <= 256; room++ {
		x := newTable(t, room)
		var want []api.Slot
		for i := range room {
			holdsAt(t, x, 2*(room-i)-1, nil)
			reserve(t, x, i, 7, 2, 0, 2*room, 2*(room-i-1))
			want = append(want, api.Slot{Id: i, Group: 7, From: 2 * (room - i - 1), To: 2 * (room - i)})
		}
		slices.Reverse(want)
		if l := x.All(); !slices.Equal(l, want) {
			t.Fatalf("All: %v; want %v", l, want)
		}
		// A full table, where there would be a place, and where there would be none.
		refuses(t, x, room, 8, 1, 0, 10, api.ErrFull)
		refuses(t, x, room, 7, 1, 0, 2*room, api.ErrFull)
		refuses(t, x, room, 7, 3, 1, 2, api.ErrFull)
		refuses(t, x, -1, 7, 1, 0, 0, api.ErrFull)
		refuses(t, x, room-1, 8, 1, 0, 10, api.ErrTwice)
		refuses(t, x, room-1, 7, 1, 0, 0, api.ErrTwice)
		refuses(t, x, room-1, 7, 0, 0, 10, api.ErrArg)
		holds(t, x, want)
		// One that goes makes room for one, and for no more.
		gone := want[room/2]
		free(t, x, gone.Id, api.OK)
		refuses(t, x, room, 7, 3, 0, 2*room, api.ErrNone)
		reserve(t, x, room, 7, 2, 0, 2*room, gone.From)
		refuses(t, x, gone.Id, 8, 1, 0, 10, api.ErrFull)
		want[room/2].Id = room
		holds(t, x, want)
	}
}

func TestAFullTableFreedInEachOrder(t *testing.T) { // P16.1, P16.2, P16.3
	r := rand.New(rand.NewSource(16))
	for range 20 {
		x := newTable(t, 256)
		var want []api.Slot
		for i, id := range r.Perm(256) {
			group := id % 5
			want = append(want, api.Slot{Id: id, Group: group, From: 3 * (255 - i), To: 3 * (256 - i)})
			reserve(t, x, id, group, 3, 0, 3*(256-i), 3*(255-i))
		}
		slices.Reverse(want)
		if l := x.All(); !slices.Equal(l, want) {
			t.Fatalf("All: %v; want %v", l, want)
		}
		for _, id := range r.Perm(256) {
			free(t, x, id, api.OK)
			free(t, x, id, api.ErrNone)
			want = slices.DeleteFunc(want, func(s api.Slot) bool { return s.Id == id })
			if l := x.All(); !slices.Equal(l, want) {
				t.Fatalf("All: %v; want %v", l, want)
			}
		}
		holds(t, x, nil)
	}
}

// step is what is asked of a table: Free of the Id, or, where there is a length, Reserve.
type step struct{ id, group, length, from, to int }

func (p pair) take(t *testing.T, s step, base int) {
	t.Helper()
	if s.length == 0 {
		p.free(t, s.id)
		return
	}
	p.reserve(t, s.id, s.group, s.length, base+s.from, base+s.to)
}

func TestAllWaysOfFewSteps(t *testing.T) { // P16.1, P16.2, P16.3
	steps := []step{{id: 1}, {id: 2}, {id: 3}}
	for id := 1; id <= 3; id++ {
		for group := range 2 {
			steps = append(steps, step{id, group, 1, 0, 3}, step{id, group, 2, 0, 5}, step{id, group, 2, 1, 4})
		}
	}
	var ways func(done []step)
	ways = func(done []step) {
		for room := 2; room <= 3; room++ {
			p := newPair(t, room)
			for _, s := range done {
				p.take(t, s, 0)
			}
			p.same(t, 0, 5)
		}
		if len(done) == 3 {
			return
		}
		for _, s := range steps {
			ways(append(slices.Clone(done), s))
		}
	}
	ways(nil)
}

// chance is a step of a small world, whose times are at most most.
func chance(r *rand.Rand, ids, groups, long, most int) step {
	s := step{id: r.Intn(ids)}
	if r.Intn(4) > 0 {
		s.group, s.length = r.Intn(groups), 1+r.Intn(long)
		s.from = r.Intn(most + 1)
		s.to = s.from + r.Intn(most-s.from+1)
		if r.Intn(3) == 0 {
			s.from, s.to = 0, most
		}
	}
	return s
}

func TestChance(t *testing.T) { // P16.1, P16.2, P16.3
	for i, base := range []int{0, 0, 0, 0, 1, 7, longest, 1 << 32, lastTime - 40, lastTime - 41} {
		for _, room := range []int{1, 2, 3, 5, 8, 13, 20, 256} {
			for _, groups := range []int{1, 2, 4} {
				r := rand.New(rand.NewSource(int64(1000*i + 10*room + groups)))
				p := newPair(t, room)
				for range 120 {
					p.take(t, chance(r, 30, groups, 6, 40), base)
					p.same(t, base, base+40)
				}
			}
		}
	}
}

// The same steps, so many times longer, answer places that are as many times later.
func TestLongSlotsAreAsShortOnes(t *testing.T) { // P16.1, P16.2
	for seed := range int64(30) {
		r := rand.New(rand.NewSource(seed))
		for _, times := range []int{3, 1000, longest / 4} {
			short, long := newPair(t, 12), newTable(t, 12)
			for range 60 {
				s := chance(r, 15, 2, 4, 24)
				if s.length == 0 {
					free(t, long, s.id, short.m.free(s.id))
					continue
				}
				want, wantE := short.m.reserve(s.id, s.group, s.length, s.from, s.to)
				at, e := long.Reserve(s.id, s.group, s.length*times, s.from*times, s.to*times)
				if at != want*times || e != wantE {
					t.Fatalf("times %d: %v: %d, %d; want %d, %d", times, s, at, e, want*times, wantE)
				}
				l := short.m.slots()
				for i := range l {
					l[i].From *= times
					l[i].To *= times
				}
				holds(t, long, l)
			}
		}
	}
}

func TestReserveOfAllEdgesInAnEmptyTable(t *testing.T) { // P16.1
	lengths := []int{math.MinInt, math.MinInt + 1, -lastTime, -longest, -2, -1, 0, 1, 2, 3, longest - 1, longest, longest + 1, 1 << 32, 1<<32 + 1, lastTime, math.MaxInt - 1, math.MaxInt}
	times := []int{math.MinInt, math.MinInt + 1, -lastTime, -longest, -2, -1, 0, 1, 2, 3, longest - 1, longest, longest + 1, 1<<32 + 1,
		lastTime - longest - 1, lastTime - longest, lastTime - longest + 1, lastTime - 2, lastTime - 1, lastTime, lastTime + 1, 2 * lastTime, 1 << 62, math.MaxInt - 1, math.MaxInt}
	for _, length := range lengths {
		for _, from := range times {
			for _, to := range times {
				x := newTable(t, 1)
				switch {
				case wrong(length, from, to):
					refuses(t, x, 4, 5, length, from, to, api.ErrArg)
				case to-from < length:
					refuses(t, x, 4, 5, length, from, to, api.ErrNone)
				default:
					reserve(t, x, 4, 5, length, from, to, to-length)
					holds(t, x, []api.Slot{{Id: 4, Group: 5, From: to - length, To: to}})
					continue
				}
				holds(t, x, nil)
			}
		}
	}
}

// wrongs are lengths and times that aren't right, one or several of them at once.
var wrongs = []step{
	{0, 0, 0, 0, 10}, {0, 0, -1, 0, 10}, {0, 0, -longest, 0, 10}, {0, 0, math.MinInt, 0, 10}, {0, 0, math.MinInt, 0, lastTime},
	{0, 0, longest + 1, 0, 10}, {0, 0, longest + 1, 0, lastTime}, {0, 0, 1<<32 + 1, 0, lastTime}, {0, 0, math.MaxInt, 0, 10}, {0, 0, math.MaxInt, 0, lastTime},
	{0, 0, 1, -1, 10}, {0, 0, 1, -lastTime, 10}, {0, 0, 1, math.MinInt, 10}, {0, 0, 1, -1, -1}, {0, 0, 1, math.MinInt, math.MinInt}, {0, 0, 1, math.MinInt, math.MaxInt},
	{0, 0, 1, 0, lastTime + 1}, {0, 0, 1, lastTime, lastTime + 1}, {0, 0, 1, lastTime + 1, lastTime + 1}, {0, 0, 1, 0, math.MaxInt}, {0, 0, 1, math.MaxInt, math.MaxInt},
	{0, 0, 1, 1, 0}, {0, 0, 1, 10, 9}, {0, 0, 1, 0, -1}, {0, 0, 1, 0, math.MinInt}, {0, 0, 1, lastTime, lastTime - 1}, {0, 0, 1, lastTime, 0}, {0, 0, 1, math.MaxInt, 0},
	{0, 0, 0, 10, 9}, {0, 0, longest + 1, -1, lastTime + 1}, {0, 0, math.MaxInt, math.MaxInt, math.MinInt}, {0, 0, 0, 0, 0},
}

func TestReserveOfWrongLengthsAndTimes(t *testing.T) { // P16.1
	for _, w := range wrongs {
		x := newTable(t, 3)
		var want []api.Slot
		for id := range 3 {
			// Ahead of all other errors: of an Id that is there, and of a full table, too.
			for _, asked := range []int{0, 1, 2, 3, -1, math.MinInt, math.MaxInt} {
				refuses(t, x, asked, 1, w.length, w.from, w.to, api.ErrArg)
				refuses(t, x, asked, 2, w.length, w.from, w.to, api.ErrArg)
			}
			holds(t, x, want)
			reserve(t, x, id, 1, 2, 0, 20, 18-2*id)
			want = append([]api.Slot{{Id: id, Group: 1, From: 18 - 2*id, To: 20 - 2*id}}, want...)
		}
		refuses(t, x, 1, 1, w.length, w.from, w.to, api.ErrArg)
		refuses(t, x, 3, 1, w.length, w.from, w.to, api.ErrArg)
		refuses(t, x, 3, 1, 1, 0, 10, api.ErrFull)
		holds(t, x, want)
	}
}

func TestReserveOfAnIdTwice(t *testing.T) { // P16.1
	for _, id := range far {
		x := newTable(t, 3)
		reserve(t, x, id, 1, 4, 10, 20, 16)
		want := []api.Slot{{Id: id, Group: 1, From: 16, To: 20}}
		// At a place of its own, of another group, at the very same place, where there is no place.
		twice := []step{{id, 1, 4, 0, 10}, {id, 2, 4, 10, 20}, {id, 1, 4, 16, 20}, {id, 1, 1, 7, 7}, {id, 2, 5, 1, 3}}
		for _, s := range twice {
			refuses(t, x, s.id, s.group, s.length, s.from, s.to, api.ErrTwice)
			holds(t, x, want)
		}
		// What was refused took no room, and no place.
		reserve(t, x, 50, 1, 4, 0, 10, 6)
		reserve(t, x, 51, 2, 4, 10, 20, 16)
		want = inOrder(append(want, api.Slot{Id: 50, Group: 1, From: 6, To: 10}, api.Slot{Id: 51, Group: 2, From: 16, To: 20}))
		for _, s := range twice {
			refuses(t, x, s.id, s.group, s.length, s.from, s.to, api.ErrTwice)
		}
		refuses(t, x, 52, 1, 1, 0, 10, api.ErrFull)
		holds(t, x, want)
	}
}

func TestReserveJustGoes(t *testing.T) { // P16.1
	for _, length := range []int{1, 2, 3, 1000, longest - 1, longest} {
		for _, from := range []int{0, 1, 5, longest, lastTime - longest - 1, lastTime - length} {
			x := newTable(t, 2)
			refuses(t, x, 1, 1, length, from, from+length-1, api.ErrNone)
			refuses(t, x, 1, 1, length, from, from, api.ErrNone)
			holds(t, x, nil)
			reserve(t, x, 1, 1, length, from, from+length, from)
			want := []api.Slot{{Id: 1, Group: 1, From: from, To: from + length}}
			holds(t, x, want)
			for _, n := range []int{1, length} {
				refuses(t, x, 2, 1, n, from, from+length, api.ErrNone)
			}
			holds(t, x, want)
		}
	}
}

func TestReserveBetweenLikeTimes(t *testing.T) { // P16.1
	for _, at := range []int{0, 1, 5, longest, lastTime - 1, lastTime} {
		x := newTable(t, 1)
		for _, length := range []int{1, 2, longest} {
			refuses(t, x, 1, 1, length, at, at, api.ErrNone)
			holds(t, x, nil)
		}
		if at > 0 {
			reserve(t, x, 1, 1, 1, at-1, at, at-1)
		}
	}
}

func TestReserveBesideOthers(t *testing.T) { // P16.1, P16.3
	for _, base := range []int{0, 3, 1 << 33, lastTime - 40} {
		x := newTable(t, 6)
		reserve(t, x, 1, 1, 5, base+10, base+15, base+10)
		// One begins where it ends, one ends where it begins, and neither has a tick of it.
		refuses(t, x, 2, 1, 5, base+14, base+19, api.ErrNone)
		reserve(t, x, 2, 1, 5, base+14, base+20, base+15)
		refuses(t, x, 3, 1, 5, base+6, base+15, api.ErrNone)
		reserve(t, x, 3, 1, 5, base+5, base+15, base+5)
		// Behind all, and ahead of all, just beside the limits.
		reserve(t, x, 4, 1, 20, base, base+40, base+20)
		reserve(t, x, 5, 1, 5, base, base+40, base)
		refuses(t, x, 6, 1, 1, base, base+40, api.ErrNone)
		want := []api.Slot{{Id: 5, Group: 1, From: 0, To: 5}, {Id: 3, Group: 1, From: 5, To: 10}, {Id: 1, Group: 1, From: 10, To: 15}, {Id: 2, Group: 1, From: 15, To: 20}, {Id: 4, Group: 1, From: 20, To: 40}}
		holds(t, x, shifted(want, base))
	}
}

func TestReserveWhereTheLimitLiesInASlot(t *testing.T) { // P16.1
	// The slot goes from 10 to 20; the limit lies ahead of it, in it and behind it.
	for to := range 35 {
		for length := 1; length <= 12; length++ {
			for from := 0; from <= to; from++ {
				p := newPair(t, 2)
				p.reserve(t, 1, 1, 10, 10, 20)
				p.reserve(t, 2, 1, length, from, to)
				p.same(t, 0, 35)
			}
		}
	}
}

func TestReserveInAGap(t *testing.T) { // P16.1, P16.3
	for _, gap := range []int{1, 2, 3, 10, 1000, longest - 1, longest} {
		for _, from := range []int{0, 1, 7, longest + 1, lastTime - 2*gap - 9} {
			// Ahead of both slots there is one tick less than between them, behind them there is none.
			low := from + gap - 1
			high := low + 5 + gap
			end := high + 5
			x := newTable(t, 4)
			reserve(t, x, 1, 1, 5, low, low+5, low)
			reserve(t, x, 2, 1, 5, high, end, high)
			want := []api.Slot{{Id: 1, Group: 1, From: low, To: low + 5}, {Id: 2, Group: 1, From: high, To: end}}
			// One tick more than the gap has no place at all.
			if gap < longest {
				refuses(t, x, 3, 1, gap+1, from, end, api.ErrNone)
			}
			holds(t, x, want)
			reserve(t, x, 3, 1, gap, from, end, low+5)
			holds(t, x, inOrder(append(want, api.Slot{Id: 3, Group: 1, From: low + 5, To: high})))
			refuses(t, x, 4, 1, gap, from, end, api.ErrNone)
			refuses(t, x, 4, 1, 1, low, end, api.ErrNone)
			free(t, x, 3, api.OK)
			// One tick less leaves the gap's first one.
			if gap > 1 {
				reserve(t, x, 3, 1, gap-1, from, end, low+6)
				refuses(t, x, 4, 1, 2, low, end, api.ErrNone)
				reserve(t, x, 4, 1, 1, low, end, low+5)
			}
		}
	}
}

func TestReserveGoesByGapsThatAreTooShort(t *testing.T) { // P16.1, P16.3
	// Gaps of 4 ticks from 5 on, of 1 from 15 on, of 3 from 20 on, of 2 from 28 on: each length takes the latest that is long enough.
	places := [][2]int{{0, 5}, {9, 15}, {16, 20}, {23, 28}, {30, 35}, {35, 40}}
	for _, base := range []int{0, 1, lastTime - 40} {
		for i, want := range []int{29, 28, 20, 5} {
			x := newTable(t, 7)
			for id, place := range places {
				reserve(t, x, id, 1, place[1]-place[0], base+place[0], base+place[1], base+place[0])
			}
			before := x.All()
			length := i + 1
			refuses(t, x, 9, 1, length, base+want+1, base+40, api.ErrNone)
			refuses(t, x, 9, 1, 5, base, base+40, api.ErrNone)
			holds(t, x, before)
			reserve(t, x, 9, 1, length, base+want, base+40, base+want)
			free(t, x, 9, api.OK)
			reserve(t, x, 9, 1, length, base, base+40, base+want)
			holds(t, x, inOrder(append(before, api.Slot{Id: 9, Group: 1, From: base + want, To: base + want + length})))
		}
	}
}

func TestSlotsOfMaxTime(t *testing.T) { // P16.1, P16.2
	for _, end := range []int{256 * longest, 256*longest + 1, lastTime} {
		x := newTable(t, 256)
		var want []api.Slot
		for i := range 255 {
			at := end - (i+1)*longest
			reserve(t, x, i, 1, longest, 0, end, at)
			want = append(want, api.Slot{Id: i, Group: 1, From: at, To: at + longest})
		}
		slices.Reverse(want)
		last := want[0].From
		refuses(t, x, 255, 1, longest, last-longest+1, end, api.ErrNone)
		refuses(t, x, 255, 1, longest+1, 0, end, api.ErrArg)
		holds(t, x, want)
		reserve(t, x, 255, 1, longest, last-longest, end, last-longest)
		want = append([]api.Slot{{Id: 255, Group: 1, From: last - longest, To: last}}, want...)
		holds(t, x, want)
		refuses(t, x, 256, 1, longest, 0, end, api.ErrFull)
	}
}

func TestGroupsDoNotTouch(t *testing.T) { // P16.1, P16.2, P16.3
	// Each group has the very same place, and is full there itself.
	x := newTable(t, 256)
	var want []api.Slot
	for i, group := range far {
		reserve(t, x, i, group, 4, 6, 10, 6)
		refuses(t, x, 100, group, 1, 6, 10, api.ErrNone)
		refuses(t, x, 100, group, 4, 3, 10, api.ErrNone)
		want = append(want, api.Slot{Id: i, Group: group, From: 6, To: 10})
		holds(t, x, want)
	}
	// Then by the ticks ahead of it, in another order, each goes where its own slots leave place.
	for i, group := range slices.Backward(far) {
		reserve(t, x, 20+i, group, 1+i%3, 0, 10, 6-(1+i%3))
	}
	for i, group := range far {
		refuses(t, x, 100, group, 4+i%3, 2-i%3, 10, api.ErrNone)
		free(t, x, i, api.OK)
		reserve(t, x, i, group, 2, 0, 10, 8)
		reserve(t, x, 40+i, group, 2, 0, 10, 6)
	}
}

func TestOtherGroupsChangeNoPlace(t *testing.T) { // P16.3
	for seed := range int64(60) {
		r := rand.New(rand.NewSource(seed))
		all := newTable(t, 256)
		alone := []*Table{newTable(t, 256), newTable(t, 256), newTable(t, 256)}
		for range 200 {
			s := chance(r, 60, 3, 5, 30)
			// Each Id belongs to one group.
			s.group = s.id % 3
			if s.length == 0 {
				free(t, all, s.id, alone[s.group].Free(s.id))
				continue
			}
			want, wantE := alone[s.group].Reserve(s.id, s.group, s.length, s.from, s.to)
			if at, e := all.Reserve(s.id, s.group, s.length, s.from, s.to); at != want || e != wantE {
				t.Fatalf("among other groups %v: %d, %d; want %d, %d", s, at, e, want, wantE)
			}
			apart(t, all.All())
		}
		var want []api.Slot
		for _, x := range alone {
			want = append(want, x.All()...)
		}
		holds(t, all, inOrder(want))
	}
}

func TestFree(t *testing.T) { // P16.1, P16.2, P16.3
	// Two groups, slots with one From, and beside each other.
	lay := func() pair {
		p := newPair(t, 9)
		for _, s := range []step{{4, 1, 3, 0, 20}, {9, 1, 2, 0, 20}, {-7, 1, 5, 0, 20}, {2, 2, 3, 0, 20}, {5, 2, 5, 0, 20}, {0, 3, 20, 0, 20}, {1, 4, 1, 0, 1}, {8, 4, 1, 0, 2}} {
			p.take(t, s, 0)
		}
		return p
	}
	ids := []int{4, 9, -7, 2, 5, 0, 1, 8}
	for _, first := range ids {
		for _, second := range ids {
			p := lay()
			p.free(t, first)
			p.same(t, 0, 20)
			free(t, p.x, first, api.ErrNone)
			p.free(t, second)
			p.same(t, 0, 20)
			// The places that they left are free again, and no others.
			for id := 20; id < 24; id++ {
				p.reserve(t, id, 1, 2, 0, 20)
				p.reserve(t, id+4, 2, 3, 3, 20)
			}
			p.same(t, 0, 20)
		}
	}
}

func TestFreeOfWhatIsNotThere(t *testing.T) { // P16.1
	p := newPair(t, 5)
	for _, id := range []int{3, 40, -6} {
		free(t, p.x, id, api.ErrNone)
		p.reserve(t, id, 11, 4, 0, 30)
	}
	// Neither a group nor a time nor a length is an Id.
	for _, id := range append([]int{11, 26, 30, 22, 18, 4, 12}, far...) {
		free(t, p.x, id, api.ErrNone)
		p.same(t, 0, 30)
	}
	p.free(t, 40)
	p.same(t, 0, 30)
	free(t, p.x, 40, api.ErrNone)
	p.same(t, 0, 30)
}

func TestWhatIsFreedIsReservedAgain(t *testing.T) { // P16.3
	for _, base := range []int{0, 9, lastTime - 40} {
		for gone := range 10 {
			x := newTable(t, 10)
			for id := range 10 {
				reserve(t, x, id, 1, 4, base, base+40, base+36-4*id)
			}
			want := x.All()
			// By the same Id, at the same place, again and again.
			for range 3 {
				free(t, x, gone, api.OK)
				reserve(t, x, gone, 1, 4, base, base+40, base+36-4*gone)
				holds(t, x, want)
			}
			// By another Id, in another group, and shorter.
			free(t, x, gone, api.OK)
			reserve(t, x, 77, 1, 3, base, base+40, base+37-4*gone)
			free(t, x, 77, api.OK)
			reserve(t, x, gone, 2, 4, base, base+40, base+36)
			free(t, x, gone, api.OK)
			reserve(t, x, 77, 1, 4, base, base+40, base+36-4*gone)
			want[9-gone].Id = 77
			holds(t, x, want)
		}
	}
}

func TestSeveralWithOneFrom(t *testing.T) { // P16.2
	// All Ids at one From, of unlike lengths, laid in several orders: only the Ids tell their order.
	r := rand.New(rand.NewSource(2))
	for range 50 {
		for _, from := range []int{0, 5, lastTime - 20} {
			x := newTable(t, len(far))
			want := make([]api.Slot, len(far))
			for group, i := range r.Perm(len(far)) {
				length := 1 + (i*7)%11
				reserve(t, x, far[i], group, length, from, from+length, from)
				want[i] = api.Slot{Id: far[i], Group: group, From: from, To: from + length}
			}
			holds(t, x, want)
			holdsAt(t, x, from, want)
			if d := x.Depth(from); d != len(far) {
				t.Fatalf("Depth(%d): %d; want %d", from, d, len(far))
			}
			for i, id := range far[:len(far)-1] {
				free(t, x, id, api.OK)
				holds(t, x, want[i+1:])
			}
		}
	}
}

func TestAtTheEndsOfASlot(t *testing.T) { // P16.2
	for _, length := range []int{1, 2, 3, 1000, longest} {
		for _, from := range []int{0, 1, 7, longest, lastTime - length} {
			x := newTable(t, 1)
			reserve(t, x, 3, 4, length, from, from+length, from)
			own := []api.Slot{{Id: 3, Group: 4, From: from, To: from + length}}
			holdsAt(t, x, from-1, nil)
			holdsAt(t, x, from, own)
			holdsAt(t, x, from+length/2, own)
			holdsAt(t, x, from+length-1, own)
			holdsAt(t, x, from+length, nil)
			for _, tick := range nowhere {
				holdsAt(t, x, tick, nil)
			}
			free(t, x, 3, api.OK)
			holdsAt(t, x, from, nil)
		}
	}
}

func TestDepthOfAFullTable(t *testing.T) { // P16.2
	x := newTable(t, 256)
	for i := range 256 {
		// Each has the tick 0, and is one tick longer than the one ahead of it.
		reserve(t, x, i, -i, i+1, 0, i+1, 0)
	}
	for tick := range 258 {
		l := x.At(tick)
		if len(l) != max(256-tick, 0) || x.Depth(tick) != len(l) {
			t.Fatalf("At(%d): %d slots; Depth: %d; want %d", tick, len(l), x.Depth(tick), 256-tick)
		}
		for i, s := range l {
			if s.Id != tick+i {
				t.Fatalf("At(%d): %v at %d", tick, s, i)
			}
		}
	}
}

// spoil writes into a list, and behind it as far as its memory goes.
func spoil(l []api.Slot) {
	l = l[:cap(l)]
	for i := range l {
		l[i] = api.Slot{Id: -99, Group: -99, From: -99, To: lastTime + 99}
	}
}

func TestWhatIsAnsweredIsNew(t *testing.T) { // P16.4
	for _, room := range []int{1, 2, 5, 8, 20, 256} {
		p := newPair(t, room)
		for i := range min(room, 20) {
			p.reserve(t, 7*i%20, i%3, 1+i%4, 0, 30)
			first, second := p.x.All(), p.x.All()
			spoil(first)
			if !slices.Equal(second, p.m.slots()) {
				t.Fatalf("two answers share memory: %v", second)
			}
			spoil(second)
			for tick := range 31 {
				first, second := p.x.At(tick), p.x.At(tick)
				spoil(first)
				if !slices.Equal(second, having(p.m.slots(), tick)) {
					t.Fatalf("two answers share memory: %v", second)
				}
				spoil(second)
			}
			p.same(t, 0, 30)
		}
		// What was answered ahead of a change stays as it was.
		was, at := p.x.All(), p.x.At(29)
		wasToo, atToo := slices.Clone(was), slices.Clone(at)
		for id := range 20 {
			p.free(t, id)
			p.reserve(t, id+30, 1, 2, 0, 25)
		}
		p.same(t, 0, 30)
		if !slices.Equal(was, wasToo) || !slices.Equal(at, atToo) {
			t.Fatalf("a change reached %v, %v; want %v, %v", was, at, wasToo, atToo)
		}
	}
}

func TestTellingChangesNothing(t *testing.T) { // P16.2
	asked, left := newPair(t, 8), newPair(t, 8)
	r := rand.New(rand.NewSource(5))
	for range 300 {
		s := chance(r, 12, 2, 5, 30)
		asked.take(t, s, 0)
		left.take(t, s, 0)
		for range 2 {
			asked.same(t, 0, 30)
		}
	}
	if a, b := asked.x.All(), left.x.All(); !slices.Equal(a, b) {
		t.Fatalf("%v; want %v", a, b)
	}
}

func TestTablesSideBySide(t *testing.T) { // P16.1, P16.3
	r := rand.New(rand.NewSource(9))
	tables := []pair{newPair(t, 1), newPair(t, 4), newPair(t, 4), newPair(t, 256)}
	for range 400 {
		i := r.Intn(len(tables))
		tables[i].take(t, chance(r, 12, 2, 5, 30), 0)
		for _, p := range tables {
			p.same(t, 0, 30)
		}
	}
	// The same Id, group and place in each.
	for range 2 {
		x, y := newTable(t, 1), newTable(t, 1)
		reserve(t, x, 1, 1, 5, 0, 5, 0)
		reserve(t, y, 1, 1, 5, 0, 5, 0)
		free(t, x, 1, api.OK)
		holds(t, x, nil)
		holds(t, y, []api.Slot{{Id: 1, Group: 1, From: 0, To: 5}})
	}
}

func TestNothingIsKeptOfWhatGoes(t *testing.T) {
	p := newPair(t, 20)
	for id := range 20 {
		p.reserve(t, id, id%2, 2, 0, 40)
	}
	for _, id := range []int{19, 0, 7, 8, 3, 12} {
		p.free(t, id)
		p.same(t, 0, 40)
		for _, s := range p.x.slots[len(p.x.slots):cap(p.x.slots)] {
			if s != (api.Slot{}) {
				t.Fatalf("%v is kept behind the slots", s)
			}
		}
	}
}
