package wheel

import (
	"math"
	"math/rand"
	"slices"
	"sync"
	"testing"

	"pendulum/api"
)

var farIds = []int{math.MinInt, math.MinInt + 1, -1, 0, 1, math.MaxInt - 1, math.MaxInt}

func due(at, id int) api.Due { return api.Due{At: at, Id: id} }

// plainCompare compares entries as lists of their parts: what the wheel's order is held against.
func plainCompare(a, b api.Due) int { return slices.Compare([]int{a.At, a.Id}, []int{b.At, b.Id}) }

func inOrder(entries []api.Due) []api.Due {
	return slices.SortedFunc(slices.Values(entries), plainCompare)
}

// dueBy splits entries that are in order into those that are due by a time, and the others.
func dueBy(entries []api.Due, to int) (come, left []api.Due) {
	for _, d := range entries {
		if d.At <= to {
			come = append(come, d)
		} else {
			left = append(left, d)
		}
	}
	return come, left
}

func without(entries []api.Due, id int) []api.Due {
	return slices.DeleteFunc(slices.Clone(entries), func(d api.Due) bool { return d.Id == id })
}

func has(entries []api.Due, id int) bool {
	return slices.ContainsFunc(entries, func(d api.Due) bool { return d.Id == id })
}

// model is a wheel as plainly as can be: a list that is sorted at each step.
type model struct {
	room, now int
	list      []api.Due
}

func (m *model) add(d api.Due) api.Errno {
	switch {
	case d.At < m.now || d.At > 1<<40:
		return api.ErrArg
	case has(m.list, d.Id):
		return api.ErrTwice
	case len(m.list) == m.room:
		return api.ErrFull
	}
	m.list = inOrder(append(m.list, d))
	return api.OK
}

func (m *model) cancel(id int) bool {
	was := len(m.list)
	m.list = without(m.list, id)
	return len(m.list) < was
}

func (m *model) advance(to int) ([]api.Due, api.Errno) {
	if to < m.now || to > 1<<40 {
		return nil, api.ErrArg
	}
	come, left := dueBy(m.list, to)
	m.now, m.list = to, left
	return come, api.OK
}

func newWheel(t *testing.T, room int) *Wheel {
	t.Helper()
	w, e := New(room)
	if e != api.OK || w == nil {
		t.Fatalf("New(%d): %v, %d", room, w, e)
	}
	return w
}

// stands answers all entries by their places, and holds that each stands in its own, behind what is due ahead of it.
func stands(t *testing.T, w *Wheel) []api.Due {
	t.Helper()
	if len(w.places) != 64 {
		t.Fatalf("%d places", len(w.places))
	}
	var all []api.Due
	for place, l := range w.places {
		for i, d := range l {
			if d.At%64 != place {
				t.Fatalf("%v stands at the place %d", d, place)
			}
			if i > 0 && plainCompare(l[i-1], d) >= 0 {
				t.Fatalf("%v stands behind %v", d, l[i-1])
			}
		}
		for _, d := range l[len(l):cap(l)] {
			if d != (api.Due{}) {
				t.Fatalf("%v is kept behind the entries of the place %d", d, place)
			}
		}
		all = append(all, l...)
	}
	return all
}

// holds asks a wheel of all that it tells without a change: it is at this time, and has just these entries, which are in order.
func holds(t *testing.T, w *Wheel, now int, want []api.Due) {
	t.Helper()
	if w.Now() != now {
		t.Fatalf("Now: %d; want %d", w.Now(), now)
	}
	if w.Len() != len(want) {
		t.Fatalf("Len: %d; want %d", w.Len(), len(want))
	}
	least := 0
	if len(want) > 0 {
		least = want[0].At
	}
	if at, ok := w.Next(); at != least || ok != (len(want) > 0) {
		t.Fatalf("Next: %d, %v; want %d, %v", at, ok, least, len(want) > 0)
	}
	if l := inOrder(stands(t, w)); !slices.Equal(l, want) {
		t.Fatalf("there are %v; want %v", l, want)
	}
}

func add(t *testing.T, w *Wheel, d api.Due, want api.Errno) {
	t.Helper()
	if e := w.Add(d); e != want {
		t.Fatalf("at %d: Add(%v): %d; want %d", w.Now(), d, e, want)
	}
}

func cancel(t *testing.T, w *Wheel, id int, want bool) {
	t.Helper()
	if ok := w.Cancel(id); ok != want {
		t.Fatalf("Cancel(%d): %v; want %v", id, ok, want)
	}
}

// comes holds that just these entries come by a time, and that this is the wheel's then.
func comes(t *testing.T, w *Wheel, to int, want ...api.Due) {
	t.Helper()
	was := w.Now()
	if l, e := w.Advance(to); e != api.OK || !slices.Equal(l, want) {
		t.Fatalf("from %d: Advance(%d): %v, %d; want %v, OK", was, to, l, e, want)
	}
	if w.Now() != to {
		t.Fatalf("Now: %d; want %d", w.Now(), to)
	}
}

func refuses(t *testing.T, w *Wheel, to int) {
	t.Helper()
	if l, e := w.Advance(to); e != api.ErrArg || len(l) != 0 {
		t.Fatalf("at %d: Advance(%d): %v, %d; want nothing, ErrArg", w.Now(), to, l, e)
	}
}

// ends holds that these entries are all that is left: they come by MaxTick, and nothing behind them.
func ends(t *testing.T, w *Wheel, want []api.Due) {
	t.Helper()
	comes(t, w, api.MaxTick, want...)
	comes(t, w, api.MaxTick)
	holds(t, w, api.MaxTick, nil)
}

// filled is a wheel with room for so many, that was given these entries.
func filled(t *testing.T, room int, entries ...api.Due) *Wheel {
	t.Helper()
	w := newWheel(t, room)
	for _, d := range entries {
		add(t, w, d, api.OK)
	}
	return w
}

// mixed are so many entries of times up to a most one that neither rise nor fall, many of one time or one place.
func mixed(n, most int) []api.Due {
	var l []api.Due
	for i := range n {
		l = append(l, due(i*37%(most+1), i*101%1031-500))
	}
	return l
}

// orders calls f with each order of the entries.
func orders(entries []api.Due, f func([]api.Due)) {
	var lay func(done, left []api.Due)
	lay = func(done, left []api.Due) {
		if len(left) == 0 {
			f(done)
		}
		for i, d := range left {
			lay(append(slices.Clone(done), d), slices.Delete(slices.Clone(left), i, i+1))
		}
	}
	lay(nil, entries)
}

func TestNew(t *testing.T) { // P9.1
	for _, room := range []int{1, 2, 3, 63, 64, 65, 100, 1023, 1024} {
		w := newWheel(t, room)
		holds(t, w, 0, nil)
		cancel(t, w, 0, false)
		comes(t, w, 0)
		comes(t, w, 1)
		comes(t, w, 200)
		holds(t, w, 200, nil)
		ends(t, w, nil)
	}
}

func TestNewOfWrongRooms(t *testing.T) { // P9.1
	for _, room := range []int{0, -1, -2, -64, -1024, 1025, 1026, 2048, 1 << 16, 1 << 32, 1<<32 + 1, math.MinInt, math.MaxInt} {
		if w, e := New(room); w != nil || e != api.ErrArg {
			t.Errorf("New(%d): %v, %d; want nil, ErrArg", room, w, e)
		}
	}
}

func TestTheExample(t *testing.T) { // P9.1, P9.2
	w := filled(t, 1, due(5, 3))
	comes(t, w, 4)
	holds(t, w, 4, []api.Due{due(5, 3)})
	comes(t, w, 5, due(5, 3))
	holds(t, w, 5, nil)
}

func TestAllOrders(t *testing.T) { // P9.1, P9.2, P9.3
	for _, entries := range [][]api.Due{
		{due(0, 9), due(1, 3), due(2, 7), due(3, 1), due(10, 5), due(63, 0)},
		{due(5, -3), due(5, -1), due(5, 0), due(5, 2), due(5, 7), due(5, 11)},
		{due(6, 4), due(70, 2), due(134, 5), due(198, 1), due(262, 3), due(326, 0)},
		{due(6, 8), due(6, 9), due(7, 1), due(70, 2), due(70, 5), due(134, 0)},
		{due(62, 5), due(63, 4), due(64, 3), due(65, 2), due(127, 1), due(128, 0)},
		{due(0, 1), due(64, 0), due(1<<40-64, 9), due(1<<40-1, 2), due(1<<40, -2), due(1<<40, 5)},
	} {
		orders(entries, func(l []api.Due) {
			w := filled(t, len(l), l...)
			holds(t, w, 0, entries)
			left := entries
			for _, d := range entries {
				come, behind := dueBy(left, d.At)
				comes(t, w, d.At, come...)
				holds(t, w, d.At, behind)
				left = behind
			}
			ends(t, filled(t, len(l), l...), entries)
		})
	}
}

func TestAdvanceByOne(t *testing.T) { // P9.2
	entries := inOrder(mixed(150, 400))
	w := filled(t, 150, entries...)
	left := entries
	for to := range 402 {
		come, behind := dueBy(left, to)
		comes(t, w, to, come...)
		holds(t, w, to, behind)
		left = behind
	}
	ends(t, w, nil)
}

func TestAdvanceBySome(t *testing.T) { // P9.2, P9.3
	entries := inOrder(mixed(200, 700))
	for _, by := range []int{2, 3, 7, 31, 62, 63, 64, 65, 66, 127, 128, 129, 500, 701} {
		for first := range 3 {
			w, left := filled(t, 200, mixed(200, 700)...), entries
			for to := first; to < 900; to += by {
				come, behind := dueBy(left, to)
				comes(t, w, to, come...)
				holds(t, w, to, behind)
				left = behind
			}
			ends(t, w, left)
		}
	}
}

func TestAdvanceFromEachTimeByEachWay(t *testing.T) { // P9.2
	// An entry at each tick: so none comes early, and none is left behind.
	var entries []api.Due
	for at := range 300 {
		entries = append(entries, due(at, (at*7)%300))
	}
	for from := 0; from <= 130; from++ {
		for _, by := range []int{0, 1, 2, 32, 61, 62, 63, 64, 65, 66, 126, 127, 128, 129, 130, 192} {
			w := filled(t, 300, entries...)
			comes(t, w, from, entries[:from+1]...)
			till := min(from+by+1, 300)
			comes(t, w, from+by, entries[from+1:till]...)
			holds(t, w, from+by, entries[till:])
		}
	}
}

func TestAdvanceToTheTimeThatItIs(t *testing.T) { // P9.2
	for _, now := range []int{0, 1, 63, 64, 65, 1000, 1<<40 - 1, 1 << 40} {
		w := newWheel(t, 4)
		comes(t, w, now)
		comes(t, w, now)
		holds(t, w, now, nil)
		// What is added at the wheel's own time is due at once, again and again.
		for range 3 {
			add(t, w, due(now, 2), api.OK)
			add(t, w, due(now, -1), api.OK)
			holds(t, w, now, []api.Due{due(now, -1), due(now, 2)})
			comes(t, w, now, due(now, -1), due(now, 2))
			comes(t, w, now)
			holds(t, w, now, nil)
		}
	}
}

func TestAdvanceLeavesWhatComesLater(t *testing.T) { // P9.2
	for _, now := range []int{0, 1, 63, 64, 1000, 1<<40 - 1000} {
		for by := range 260 {
			w := newWheel(t, 2)
			comes(t, w, now)
			later := due(now+by+1, 7)
			add(t, w, later, api.OK)
			comes(t, w, now+by)
			holds(t, w, now+by, []api.Due{later})
			comes(t, w, now+by+1, later)
			holds(t, w, now+by+1, nil)
		}
	}
}

func TestAdvanceToMaxTick(t *testing.T) { // P9.2, P1
	for _, from := range []int{0, 1, 63, 64, 1 << 20, 1<<40 - 65, 1<<40 - 64, 1<<40 - 1, 1 << 40} {
		w := newWheel(t, 3)
		comes(t, w, from)
		add(t, w, due(1<<40, 8), api.OK)
		add(t, w, due(from, 9), api.OK)
		add(t, w, due(1<<40, 7), api.OK)
		comes(t, w, 1<<40, inOrder([]api.Due{due(from, 9), due(1<<40, 7), due(1<<40, 8)})...)
		holds(t, w, 1<<40, nil)
		refuses(t, w, 1<<40-1)
		refuses(t, w, 1<<40+1)
		add(t, w, due(1<<40-1, 1), api.ErrArg)
		add(t, w, due(1<<40, 1), api.OK)
		holds(t, w, 1<<40, []api.Due{due(1<<40, 1)})
		ends(t, w, []api.Due{due(1<<40, 1)})
	}
}

func TestAdvanceToWrongTimes(t *testing.T) { // P9.2
	for _, now := range []int{0, 1, 5, 63, 64, 65, 1000, 1<<40 - 1, 1 << 40} {
		w := newWheel(t, 3)
		comes(t, w, now)
		want := []api.Due{due(now, -4), due(now, 4), due(1<<40, 8)}
		for _, d := range want {
			add(t, w, d, api.OK)
		}
		for _, to := range []int{now - 1, now - 2, now - 64, now - 65, -1, -64, math.MinInt, 1<<40 + 1, 1<<40 + 64, 1 << 41, 1 << 62, math.MaxInt} {
			refuses(t, w, to)
			holds(t, w, now, want)
		}
		comes(t, w, 1<<40, want...)
	}
}

func TestAddOfWrongTimes(t *testing.T) { // P9.1
	for _, now := range []int{0, 1, 5, 63, 64, 65, 1000, 1<<40 - 1, 1 << 40} {
		w := newWheel(t, 3)
		comes(t, w, now)
		add(t, w, due(now, 4), api.OK)
		wrong := []int{now - 1, now - 2, now - 64, now - 65, -1, -64, math.MinInt, 1<<40 + 1, 1<<40 + 64, 1 << 41, 1 << 62, math.MaxInt}
		for _, at := range wrong {
			add(t, w, due(at, 5), api.ErrArg)
			// It is named first: so it is told of a number that is there, too.
			add(t, w, due(at, 4), api.ErrArg)
			holds(t, w, now, []api.Due{due(now, 4)})
		}
		add(t, w, due(now, 5), api.OK)
		add(t, w, due(1<<40, 6), api.OK)
		want := []api.Due{due(now, 4), due(now, 5), due(1<<40, 6)}
		for _, at := range wrong {
			for _, id := range []int{4, 5, 6, 7} {
				add(t, w, due(at, id), api.ErrArg)
			}
			holds(t, w, now, want)
		}
		ends(t, w, want)
	}
}

func TestAddAtEachTimeFromTheWheelsOwn(t *testing.T) { // P9.1, P9.2
	for _, now := range []int{0, 1, 62, 63, 64, 65, 127, 128, 1<<40 - 130} {
		w := newWheel(t, 1)
		comes(t, w, now)
		for by := -130; by <= 130; by++ {
			want := api.OK
			if by < 0 {
				want = api.ErrArg
			}
			add(t, w, due(now+by, 1), want)
			if by < 0 {
				holds(t, w, now, nil)
				continue
			}
			holds(t, w, now, []api.Due{due(now+by, 1)})
			cancel(t, w, 1, true)
			holds(t, w, now, nil)
		}
	}
}

func TestAddOfANumberTwice(t *testing.T) { // P9.1
	for _, id := range farIds {
		w := filled(t, 3, due(70, id))
		for _, at := range []int{70, 0, 5, 6, 69, 71, 134, 1 << 40} {
			add(t, w, due(at, id), api.ErrTwice)
			holds(t, w, 0, []api.Due{due(70, id)})
		}
		// What was refused took no room.
		add(t, w, due(6, 50), api.OK)
		add(t, w, due(70, 51), api.OK)
		want := inOrder([]api.Due{due(6, 50), due(70, id), due(70, 51)})
		holds(t, w, 0, want)
		// In a full wheel, too.
		for _, d := range want {
			add(t, w, d, api.ErrTwice)
			add(t, w, due(1, d.Id), api.ErrTwice)
		}
		holds(t, w, 0, want)
		ends(t, w, want)
	}
}

func TestAddIntoAFullWheel(t *testing.T) { // P9.1
	for _, room := range []int{1, 2, 3, 17, 64, 65, 1023, 1024} {
		entries := mixed(room, 300)
		w, want := filled(t, room, entries...), inOrder(entries)
		for _, at := range []int{0, 1, 63, 64, 299, 300, 301, 1 << 40} {
			for _, id := range []int{2000, -2000, math.MinInt, math.MaxInt} {
				add(t, w, due(at, id), api.ErrFull)
			}
		}
		holds(t, w, 0, want)
		for _, d := range entries {
			add(t, w, d, api.ErrTwice)
		}
		add(t, w, due(-1, 2000), api.ErrArg)
		add(t, w, due(1<<40+1, 2000), api.ErrArg)
		holds(t, w, 0, want)
		// One that goes makes room for one, and for no more.
		cancel(t, w, entries[room/2].Id, true)
		add(t, w, due(7, 2000), api.OK)
		add(t, w, due(7, 2001), api.ErrFull)
		want = inOrder(append(without(entries, entries[room/2].Id), due(7, 2000)))
		holds(t, w, 0, want)
		// And so do those that come.
		come, left := dueBy(want, 100)
		comes(t, w, 100, come...)
		for i := range come {
			add(t, w, due(100, 3000+i), api.OK)
			left = append(left, due(100, 3000+i))
		}
		add(t, w, due(100, 2001), api.ErrFull)
		ends(t, w, inOrder(left))
	}
}

func TestRoomForAllAtOneTime(t *testing.T) { // P9.1, P9.2
	for _, at := range []int{0, 5, 63, 64, 1 << 40} {
		w := newWheel(t, 1024)
		var want []api.Due
		for i := range 1024 {
			add(t, w, due(at, i*5%1024-512), api.OK)
			want = append(want, due(at, i-512))
		}
		add(t, w, due(at, 512), api.ErrFull)
		holds(t, w, 0, want)
		if at > 0 {
			comes(t, w, at-1)
			holds(t, w, at-1, want)
		}
		comes(t, w, at, want...)
		holds(t, w, at, nil)
	}
}

func TestFarNumbers(t *testing.T) { // P9.1, P9.2, P1
	var want []api.Due
	for _, id := range farIds {
		want = append(want, due(40, id))
	}
	orders(want, func(l []api.Due) {
		w := filled(t, len(l), l...)
		comes(t, w, 39)
		comes(t, w, 40, want...)
	})
	for _, id := range farIds {
		w := filled(t, len(want), want...)
		cancel(t, w, id, true)
		cancel(t, w, id, false)
		holds(t, w, 0, without(want, id))
		ends(t, w, without(want, id))
	}
}

func TestTheZeroEntry(t *testing.T) { // P9.1
	w := newWheel(t, 2)
	cancel(t, w, 0, false)
	add(t, w, api.Due{}, api.OK)
	holds(t, w, 0, []api.Due{{}})
	add(t, w, api.Due{}, api.ErrTwice)
	comes(t, w, 0, api.Due{})
	// What has gone isn't found as an entry of the number 0.
	cancel(t, w, 0, false)
	add(t, w, api.Due{}, api.OK)
	cancel(t, w, 0, true)
	cancel(t, w, 0, false)
	comes(t, w, 0)
	holds(t, w, 0, nil)
}

func TestCancel(t *testing.T) { // P9.1
	// Of one place, of one time, alone in a place, first and last.
	entries := []api.Due{due(0, 4), due(6, -1), due(6, 3), due(6, 9), due(7, 1), due(64, 2), due(70, 8), due(134, 0), due(1<<40, 7)}
	for _, d := range entries {
		w := filled(t, 12, entries...)
		cancel(t, w, d.Id, true)
		left := without(entries, d.Id)
		holds(t, w, 0, left)
		cancel(t, w, d.Id, false)
		holds(t, w, 0, left)
		ends(t, w, left)
		for _, x := range left {
			w := filled(t, 12, entries...)
			cancel(t, w, x.Id, true)
			cancel(t, w, d.Id, true)
			both := without(left, x.Id)
			holds(t, w, 0, both)
			come, behind := dueBy(both, 70)
			comes(t, w, 70, come...)
			ends(t, w, behind)
		}
	}
}

func TestCancelOfWhatIsNotThere(t *testing.T) { // P9.1
	entries := mixed(40, 200)
	for _, n := range []int{0, 1, 2, 40} {
		w, want := filled(t, 40, entries[:n]...), inOrder(entries[:n])
		ids := slices.Clone(farIds)
		for _, d := range entries[n:] {
			ids = append(ids, d.Id)
		}
		// A time is no number.
		for _, d := range entries[:n] {
			ids = append(ids, d.At)
		}
		for _, id := range ids {
			if !has(want, id) {
				cancel(t, w, id, false)
				holds(t, w, 0, want)
			}
		}
		ends(t, w, want)
		// What has come isn't there any more.
		for _, d := range want {
			cancel(t, w, d.Id, false)
		}
	}
}

func TestCancelTillNoneIsLeft(t *testing.T) { // P9.1
	for _, n := range []int{1, 2, 3, 64, 65, 200, 1024} {
		entries := mixed(n, 500)
		w := newWheel(t, n)
		for round := range 3 {
			for _, d := range entries {
				add(t, w, d, api.OK)
			}
			left := inOrder(entries)
			for i := range entries {
				// Another order each round: as added, the contrary, from the middle on.
				id := entries[[]int{i, n - 1 - i, (i + n/2) % n}[round]].Id
				cancel(t, w, id, true)
				left = without(left, id)
				if i%16 == 0 {
					holds(t, w, 0, left)
				}
			}
			holds(t, w, 0, nil)
		}
		ends(t, w, nil)
	}
}

func TestAddAgain(t *testing.T) { // P9.1, P9.2
	w := newWheel(t, 1)
	now := 0
	for i := range 400 {
		at := now + i%70
		add(t, w, due(at, 5), api.OK)
		add(t, w, due(at, 5), api.ErrTwice)
		add(t, w, due(at, 6), api.ErrFull)
		holds(t, w, now, []api.Due{due(at, 5)})
		if i%3 == 0 {
			cancel(t, w, 5, true)
			holds(t, w, now, nil)
			continue
		}
		comes(t, w, at, due(at, 5))
		holds(t, w, at, nil)
		now = at
	}
}

func TestNextAndLen(t *testing.T) { // P9.1
	w := newWheel(t, 9)
	for _, x := range []struct{ at, next int }{{300, 300}, {1 << 40, 300}, {364, 300}, {236, 236}, {237, 236}, {64, 64}, {63, 63}, {63, 63}, {0, 0}} {
		n := w.Len()
		add(t, w, due(x.at, n), api.OK)
		for range 2 {
			if at, ok := w.Next(); at != x.next || !ok || w.Len() != n+1 {
				t.Fatalf("behind Add at %d: Next: %d, %v, Len: %d; want %d, true, %d", x.at, at, ok, w.Len(), x.next, n+1)
			}
		}
	}
	for _, x := range []struct{ to, next, left int }{{0, 63, 8}, {62, 63, 8}, {63, 64, 6}, {64, 236, 5}, {236, 237, 4}, {299, 300, 3}, {300, 364, 2}, {1<<40 - 1, 1 << 40, 1}} {
		if _, e := w.Advance(x.to); e != api.OK {
			t.Fatal(e)
		}
		if at, ok := w.Next(); at != x.next || !ok || w.Len() != x.left {
			t.Fatalf("at %d: Next: %d, %v, Len: %d; want %d, true, %d", x.to, at, ok, w.Len(), x.next, x.left)
		}
	}
	cancel(t, w, 1, true)
	if at, ok := w.Next(); at != 0 || ok || w.Len() != 0 {
		t.Fatalf("of none: Next: %d, %v, Len: %d", at, ok, w.Len())
	}
}

func TestNextIsWhereTheNextComes(t *testing.T) { // P9.1, P9.2, P9.3
	entries := append(mixed(300, 2000), due(1<<40, 600), due(1<<30, 601), due(1<<39+5, 602))
	w, left := filled(t, 400, entries...), inOrder(entries)
	for len(left) > 0 {
		at, ok := w.Next()
		if !ok || at != left[0].At {
			t.Fatalf("Next: %d, %v; want %d", at, ok, left[0].At)
		}
		if at > w.Now() {
			comes(t, w, at-1)
		}
		come, behind := dueBy(left, at)
		comes(t, w, at, come...)
		left = behind
	}
	holds(t, w, 1<<40, nil)
}

func TestInAllSteps(t *testing.T) { // P9.3
	// Between these times nothing is due but at them: whichever of them the time stops at, the same comes.
	stops := []int{0, 5, 6, 62, 63, 64, 69, 70, 71, 134, 200, 1 << 20}
	entries := []api.Due{due(0, 2), due(5, 9), due(6, 0), due(6, 4), due(63, 1), due(64, 8), due(70, -3), due(70, 3), due(71, 7), due(134, 6), due(135, 5), due(1<<20, 10), due(1<<20+1, 11)}
	want, left := dueBy(entries, 1<<20)
	for way := range 1 << (len(stops) - 1) {
		w := filled(t, len(entries), entries...)
		var come []api.Due
		for i, to := range stops {
			if i < len(stops)-1 && way>>i&1 == 0 {
				continue
			}
			l, e := w.Advance(to)
			if e != api.OK {
				t.Fatal(e)
			}
			come = append(come, l...)
		}
		if !slices.Equal(come, want) {
			t.Fatalf("in the steps %b: %v; want %v", way, come, want)
		}
		holds(t, w, 1<<20, left)
	}
}

func TestInMixedSteps(t *testing.T) { // P9.3
	r := rand.New(rand.NewSource(93))
	for range 300 {
		most := []int{10, 64, 200, 3000, 1 << 40}[r.Intn(5)]
		var entries []api.Due
		for id := range 1 + r.Intn(200) {
			entries = append(entries, due(r.Intn(most+1), id*7%211-100))
		}
		want := inOrder(entries)
		for range 4 {
			r.Shuffle(len(entries), func(i, j int) { entries[i], entries[j] = entries[j], entries[i] })
			w := filled(t, 200, entries...)
			var come []api.Due
			for now := 0; now < most; {
				now = min(now+r.Intn(1+most/(1+r.Intn(20))), most)
				l, e := w.Advance(now)
				if e != api.OK || w.Now() != now {
					t.Fatalf("Advance(%d): %d", now, e)
				}
				come = append(come, l...)
			}
			if !slices.Equal(come, want) {
				t.Fatalf("%v; want %v", come, want)
			}
		}
	}
}

func TestInWhicheverStepsBetweenAdds(t *testing.T) { // P9.3
	r := rand.New(rand.NewSource(39))
	for range 200 {
		// Both are given the same at the same times; one goes there at once, the other in steps.
		a, b := newWheel(t, 50), newWheel(t, 50)
		now := 0
		for range 60 {
			d := due(now+r.Intn(200), r.Intn(80))
			if e := a.Add(d); b.Add(d) != e {
				t.Fatalf("Add(%v)", d)
			}
			id := r.Intn(80)
			if ok := a.Cancel(id); b.Cancel(id) != ok {
				t.Fatalf("Cancel(%d)", id)
			}
			to := now + r.Intn(150)
			want, _ := a.Advance(to)
			var come []api.Due
			for now < to {
				now += 1 + r.Intn(to-now)
				l, _ := b.Advance(now)
				come = append(come, l...)
			}
			l, _ := b.Advance(to)
			if come = append(come, l...); !slices.Equal(come, want) {
				t.Fatalf("by %d: %v; want %v", to, come, want)
			}
			holds(t, b, to, inOrder(stands(t, a)))
		}
	}
}

// deed is a thing that step does: 0 Add, 1 Cancel, 2 Advance.
type deed struct {
	what int
	d    api.Due
}

// step does a thing to both, and holds the answers against each other.
func step(t *testing.T, w *Wheel, m *model, do deed) {
	t.Helper()
	switch do.what {
	case 0:
		add(t, w, do.d, m.add(do.d))
	case 1:
		cancel(t, w, do.d.Id, m.cancel(do.d.Id))
	case 2:
		l, e := w.Advance(do.d.At)
		if want, err := m.advance(do.d.At); !slices.Equal(l, want) || e != err {
			t.Fatalf("Advance(%d): %v, %d; want %v, %d", do.d.At, l, e, want, err)
		}
	}
}

func TestAllWaysOfFewSteps(t *testing.T) { // P9.1, P9.2, P9.3
	const steps = 4
	var does []deed
	for _, at := range []int{0, 1, 65} {
		does = append(does, deed{2, due(at, 0)})
		for id := range 3 {
			does = append(does, deed{0, due(at, id)})
		}
	}
	for id := range 3 {
		does = append(does, deed{1, due(0, id)})
	}
	ways := 1
	for range steps {
		ways *= len(does)
	}
	for room := 1; room <= 3; room++ {
		for way := range ways {
			w, m := newWheel(t, room), &model{room: room}
			for range steps {
				step(t, w, m, does[way%len(does)])
				way /= len(does)
			}
			if at, ok := w.Next(); w.Now() != m.now || w.Len() != len(m.list) || ok != (len(m.list) > 0) || ok && at != m.list[0].At {
				t.Fatalf("Now: %d, Len: %d, Next: %d, %v; want %v", w.Now(), w.Len(), at, ok, m)
			}
			step(t, w, m, deed{2, due(1<<40, 0)})
		}
	}
}

func TestManySteps(t *testing.T) { // P9.1, P9.2, P9.3
	r := rand.New(rand.NewSource(9))
	for _, room := range []int{1, 2, 5, 16, 64, 300, 1024} {
		for _, reach := range []int{2, 20, 64, 65, 130, 1000, 1 << 30} {
			w, m := newWheel(t, room), &model{room: room}
			ids := room + 1 + r.Intn(room+1)
			for range 800 {
				// Some times lie behind the wheel's.
				at := m.now - reach/16 + r.Intn(reach)
				do := deed{[]int{0, 0, 0, 0, 1, 2}[r.Intn(6)], due(at, r.Intn(ids)-ids/2)}
				step(t, w, m, do)
				holds(t, w, m.now, m.list)
			}
			ends(t, w, m.list)
		}
	}
}

func TestStepsNearMaxTick(t *testing.T) { // P9.1, P9.2, P1
	r := rand.New(rand.NewSource(40))
	for range 200 {
		w, m := newWheel(t, 8), &model{room: 8}
		step(t, w, m, deed{2, due(1<<40-200, 0)})
		for range 100 {
			step(t, w, m, deed{[]int{0, 0, 0, 1, 2}[r.Intn(5)], due(min(m.now-5+r.Intn(60), 1<<40+3), r.Intn(12)-6)})
			holds(t, w, m.now, m.list)
		}
		ends(t, w, m.list)
	}
}

func TestAnswersAreNewMemory(t *testing.T) { // P9.4
	entries := []api.Due{due(5, 1), due(5, 2), due(6, 0), due(69, 3), due(70, 4), due(133, 5), due(133, 6)}
	for _, to := range []int{5, 6, 69, 70, 132} {
		w := filled(t, 8, entries...)
		want, left := dueBy(entries, to)
		l, _ := w.Advance(to)
		for i := range l {
			l[i] = due(1, 1000+i)
		}
		// What is laid behind an answer, or within all that it has room for, lands in no place of the wheel.
		for i := range l[:cap(l)] {
			l[:cap(l)][i] = due(2, 2000+i)
		}
		_ = append(l[:0], entries...)
		holds(t, w, to, left)
		// An answer stays as it is, whatever happens to the wheel.
		again := filled(t, 8, entries...)
		l, _ = again.Advance(to)
		for i := range want {
			add(t, again, due(to+64*i, 50+i), api.OK)
		}
		cancel(t, again, 6, true)
		if _, e := again.Advance(1 << 40); e != api.OK || !slices.Equal(l, want) {
			t.Fatalf("an answer changed with the wheel: %v; want %v", l, want)
		}
		ends(t, w, left)
	}
}

func TestTwoAnswersShareNothing(t *testing.T) { // P9.4
	w := filled(t, 4, due(1, 1), due(65, 2), due(129, 3), due(193, 4))
	a, _ := w.Advance(65)
	b, _ := w.Advance(129)
	a[0], a[1] = due(9, 9), due(9, 9)
	_ = append(a, due(8, 8), due(8, 8))
	if !slices.Equal(b, []api.Due{due(129, 3)}) {
		t.Errorf("two answers share memory: %v", b)
	}
	holds(t, w, 129, []api.Due{due(193, 4)})
	none, _ := w.Advance(129)
	_ = append(none, due(7, 7))
	holds(t, w, 129, []api.Due{due(193, 4)})
}

func TestEntriesAreValues(t *testing.T) { // P9.4
	d := due(5, 1)
	w := filled(t, 2, d)
	d.At, d.Id = 6, 2
	holds(t, w, 0, []api.Due{due(5, 1)})
	add(t, w, d, api.OK)
	d.Id = 1
	ends(t, w, []api.Due{due(5, 1), due(6, 2)})
}

func TestWheelsShareNothing(t *testing.T) { // P9.4
	a, b := filled(t, 2, due(5, 1), due(69, 2)), newWheel(t, 2)
	holds(t, b, 0, nil)
	add(t, b, due(5, 1), api.OK)
	comes(t, b, 7, due(5, 1))
	holds(t, a, 0, []api.Due{due(5, 1), due(69, 2)})
	cancel(t, a, 1, true)
	add(t, b, due(8, 2), api.OK)
	ends(t, a, []api.Due{due(69, 2)})
	ends(t, b, []api.Due{due(8, 2)})
}

func TestWheelsAtOnce(t *testing.T) { // P1, P9.3
	var all sync.WaitGroup
	for i := range 8 {
		all.Go(func() {
			entries := mixed(100+i, 400)
			want := inOrder(entries)
			for range 20 {
				w, _ := New(100 + i)
				for _, d := range entries {
					w.Add(d)
				}
				var come []api.Due
				for to := 0; to < 500; to += i + 1 {
					l, _ := w.Advance(to)
					come = append(come, l...)
				}
				if !slices.Equal(come, want) {
					t.Errorf("%v; want %v", come, want)
				}
			}
		})
	}
	all.Wait()
}

func TestAWheelWithNoRoomDoesNotPanic(t *testing.T) { // P1
	var w Wheel
	holds(t, &w, 0, nil)
	add(t, &w, due(1, 1), api.ErrFull)
	cancel(t, &w, 1, false)
	ends(t, &w, nil)
}
