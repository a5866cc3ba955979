package heap

import (
	"math"
	"math/rand"
	"slices"
	"sync"
	"testing"

	"pendulum/api"
)

var far = []int{math.MinInt, math.MinInt + 1, -1, 0, 1, math.MaxInt - 1, math.MaxInt}

func newHeap(t *testing.T, room int) *Heap {
	t.Helper()
	h, e := New(room)
	if e != api.OK || h == nil {
		t.Fatalf("New(%d): %v, %d", room, h, e)
	}
	return h
}

// plainCompare compares keys as lists of their parts: what Compare is held against.
func plainCompare(a, b api.Key) int {
	return slices.Compare([]int{a.Band, a.Prio, a.Release, a.Id}, []int{b.Band, b.Prio, b.Release, b.Id})
}

func inOrder(keys []api.Key) []api.Key { return slices.SortedFunc(slices.Values(keys), plainCompare) }

// model is a heap as plainly as can be: a list that is sorted at each step.
type model struct {
	room int
	list []api.Key
}

func (m *model) at(id int) int {
	return slices.IndexFunc(m.list, func(k api.Key) bool { return k.Id == id })
}

func (m *model) push(k api.Key) api.Errno {
	if m.at(k.Id) >= 0 {
		return api.ErrTwice
	}
	if len(m.list) == m.room {
		return api.ErrFull
	}
	m.list = inOrder(append(m.list, k))
	return api.OK
}

func (m *model) pop() (api.Key, bool) {
	if len(m.list) == 0 {
		return api.Key{}, false
	}
	k := m.list[0]
	m.list = m.list[1:]
	return k, true
}

func (m *model) remove(id int) bool {
	i := m.at(id)
	if i < 0 {
		return false
	}
	m.list = slices.Delete(slices.Clone(m.list), i, i+1)
	return true
}

func (m *model) change(k api.Key) bool {
	if !m.remove(k.Id) {
		return false
	}
	m.list = inOrder(append(m.list, k))
	return true
}

// sifted holds that no key is less than the one above it, and that behind the keys nothing is kept.
func sifted(t *testing.T, h *Heap) {
	t.Helper()
	for i := 1; i < h.taken; i++ {
		if above := (i - 1) / 2; plainCompare(h.places[above], h.places[i]) >= 0 {
			t.Fatalf("%v at %d stands above %v at %d", h.places[above], above, h.places[i], i)
		}
	}
	for i, k := range h.places[h.taken:] {
		if k != (api.Key{}) {
			t.Fatalf("%v is kept at %d, of %d keys", k, h.taken+i, h.taken)
		}
	}
}

// holds asks a heap of all that it tells without a change: it has just these keys, which are in order.
func holds(t *testing.T, h *Heap, want []api.Key) {
	t.Helper()
	if h.Len() != len(want) {
		t.Fatalf("Len: %d; want %d", h.Len(), len(want))
	}
	if l := h.Sorted(); !slices.Equal(l, want) {
		t.Fatalf("Sorted: %v; want %v", l, want)
	}
	least := api.Key{}
	if len(want) > 0 {
		least = want[0]
	}
	if k, ok := h.Peek(); k != least || ok != (len(want) > 0) {
		t.Fatalf("Peek: %v, %v; want %v, %v", k, ok, least, len(want) > 0)
	}
	sifted(t, h)
}

// pops holds that just these keys are popped, one behind the other, and then none.
func pops(t *testing.T, h *Heap, want []api.Key) {
	t.Helper()
	for i, x := range want {
		if h.Len() != len(want)-i {
			t.Fatalf("Len: %d; want %d", h.Len(), len(want)-i)
		}
		if k, ok := h.Peek(); k != x || !ok {
			t.Fatalf("Peek: %v, %v; want %v, true", k, ok, x)
		}
		if k, ok := h.Pop(); k != x || !ok {
			t.Fatalf("Pop: %v, %v; want %v, true", k, ok, x)
		}
	}
	for range 2 {
		if k, ok := h.Pop(); k != (api.Key{}) || ok {
			t.Fatalf("Pop of none: %v, %v", k, ok)
		}
	}
	holds(t, h, nil)
}

func push(t *testing.T, h *Heap, k api.Key, want api.Errno) {
	t.Helper()
	if e := h.Push(k); e != want {
		t.Fatalf("Push(%v): %d; want %d", k, e, want)
	}
}

func remove(t *testing.T, h *Heap, id int, want bool) {
	t.Helper()
	if ok := h.Remove(id); ok != want {
		t.Fatalf("Remove(%d): %v; want %v", id, ok, want)
	}
}

func change(t *testing.T, h *Heap, k api.Key, want bool) {
	t.Helper()
	if ok := h.Change(k); ok != want {
		t.Fatalf("Change(%v): %v; want %v", k, ok, want)
	}
}

// filled is a heap with room for so many, that was given these keys.
func filled(t *testing.T, room int, keys ...api.Key) *Heap {
	t.Helper()
	h := newHeap(t, room)
	for _, k := range keys {
		push(t, h, k, api.OK)
	}
	return h
}

func key(band, prio, release, id int) api.Key {
	return api.Key{Band: band, Prio: prio, Release: release, Id: id}
}

// keysOf are keys of so many lists of parts: Band, Prio, Release, Id.
func keysOf(parts [][4]int) []api.Key {
	var l []api.Key
	for _, p := range parts {
		l = append(l, key(p[0], p[1], p[2], p[3]))
	}
	return l
}

// byPrio are keys that differ in Prio, with Ids that go another way.
func byPrio(prios ...int) []api.Key {
	var l []api.Key
	for i, p := range prios {
		l = append(l, api.Key{Band: api.Must, Prio: p, Release: 7, Id: 100 - i})
	}
	return l
}

// mixedKeys are so many keys that neither rise nor fall, many of which share a part.
func mixedKeys(n int) []api.Key {
	var l []api.Key
	for i := range n {
		l = append(l, api.Key{Band: i * 5 % 3, Prio: i * 7 % 10, Release: i * 11 % 13, Id: i*101%1031 - 500})
	}
	return l
}

// orders calls f with each order of the keys.
func orders(keys []api.Key, f func([]api.Key)) {
	var lay func(done, left []api.Key)
	lay = func(done, left []api.Key) {
		if len(left) == 0 {
			f(done)
		}
		for i, k := range left {
			lay(append(slices.Clone(done), k), slices.Delete(slices.Clone(left), i, i+1))
		}
	}
	lay(nil, keys)
}

func TestNew(t *testing.T) { // P8.1
	for _, room := range []int{1, 2, 3, 100, 1023, 1024} {
		h := newHeap(t, room)
		holds(t, h, nil)
		pops(t, h, nil)
		remove(t, h, 0, false)
		change(t, h, api.Key{}, false)
		holds(t, h, nil)
	}
}

func TestNewOfWrongRooms(t *testing.T) { // P8.1
	for _, room := range []int{0, -1, -2, -1024, 1025, 1026, 2048, 1 << 16, 1 << 32, 1<<32 + 1, math.MinInt, math.MaxInt} {
		if h, e := New(room); h != nil || e != api.ErrArg {
			t.Errorf("New(%d): %v, %d; want nil, ErrArg", room, h, e)
		}
	}
}

func TestCompareByPart(t *testing.T) { // P8.1
	same := api.Key{Band: 1, Prio: 1, Release: 1, Id: 1}
	// Each is greater in one part, and less in all that count behind it.
	for i, k := range keysOf([][4]int{{2, 0, 0, 0}, {1, 2, 0, 0}, {1, 1, 2, 0}, {1, 1, 1, 2}}) {
		if c := Compare(k, same); c != 1 {
			t.Errorf("part %d: Compare(%v, %v): %d; want 1", i, k, same, c)
		}
		if c := Compare(same, k); c != -1 {
			t.Errorf("part %d: Compare(%v, %v): %d; want -1", i, same, k, c)
		}
		if c := Compare(k, k); c != 0 {
			t.Errorf("Compare of %v with itself: %d", k, c)
		}
	}
}

func TestCompareOfFarNumbers(t *testing.T) { // P8.1
	l := []int{math.MinInt, -1, 0, 1, math.MaxInt}
	var keys []api.Key
	for _, band := range l {
		for _, prio := range l {
			for _, release := range l {
				for _, id := range l {
					keys = append(keys, key(band, prio, release, id))
				}
			}
		}
	}
	for i, a := range keys {
		for j, b := range keys {
			// They were laid in order.
			want := min(max(i-j, -1), 1)
			if c := Compare(a, b); c != want {
				t.Fatalf("Compare(%v, %v): %d; want %d", a, b, c, want)
			}
		}
	}
}

func TestPushOfAnIdTwice(t *testing.T) { // P8.1, the chapter's example
	k := key(1, 5, 3, 9)
	h := filled(t, 3, k)
	for _, again := range keysOf([][4]int{{1, 5, 3, 9}, {0, 0, 0, 9}, {0, 5, 3, 9}, {2, 9, 9, 9}, {math.MinInt, 0, 0, 9}}) {
		push(t, h, again, api.ErrTwice)
		holds(t, h, []api.Key{k})
	}
	// What was refused took no room.
	push(t, h, key(1, 5, 3, 8), api.OK)
	push(t, h, key(1, 5, 3, 10), api.OK)
	pops(t, h, []api.Key{key(1, 5, 3, 8), k, key(1, 5, 3, 10)})
	// An Id that has gone is free again.
	push(t, h, k, api.OK)
	pops(t, h, []api.Key{k})
}

func TestPushOfTheZeroKey(t *testing.T) { // P8.1
	h := newHeap(t, 2)
	push(t, h, api.Key{}, api.OK)
	holds(t, h, []api.Key{{}})
	push(t, h, api.Key{}, api.ErrTwice)
	if k, ok := h.Pop(); k != (api.Key{}) || !ok {
		t.Errorf("Pop of the zero key: %v, %v", k, ok)
	}
	// What has gone, and places that nobody took, aren't found as keys of the Id 0.
	remove(t, h, 0, false)
	change(t, h, api.Key{}, false)
	push(t, h, api.Key{Id: 1}, api.OK)
	remove(t, h, 0, false)
	push(t, h, api.Key{}, api.OK)
	pops(t, h, []api.Key{{}, {Id: 1}})
}

func TestPushIntoAFullHeap(t *testing.T) { // P8.1
	for _, room := range []int{1, 2, 3, 4, 17, 1023, 1024} {
		keys := mixedKeys(room)
		h, want := filled(t, room, keys...), inOrder(keys)
		for _, k := range keysOf([][4]int{{0, 0, 0, 2000}, {-1, -1, -1, 2000}, {9, 9, 9, 2000}, {math.MinInt, 0, 0, math.MinInt}}) {
			push(t, h, k, api.ErrFull)
		}
		holds(t, h, want)
		// An Id that is there is told as such, though there is no room either.
		for _, k := range keys {
			push(t, h, k, api.ErrTwice)
			push(t, h, api.Key{Band: -1, Id: k.Id}, api.ErrTwice)
		}
		holds(t, h, want)
		if k, ok := h.Pop(); k != want[0] || !ok {
			t.Fatalf("Pop: %v, %v; want %v", k, ok, want[0])
		}
		push(t, h, want[0], api.OK)
		push(t, h, api.Key{Id: 2000}, api.ErrFull)
		pops(t, h, want)
	}
}

func TestPeekTakesNothing(t *testing.T) { // P8.1
	keys := byPrio(4, 2, 6, 1, 5)
	h := newHeap(t, 5)
	for i, k := range keys {
		push(t, h, k, api.OK)
		for range 3 {
			holds(t, h, inOrder(keys[:i+1]))
		}
	}
}

func TestAllOrders(t *testing.T) { // P8.1, P8.3
	// Alike but for one part, each part in turn; then all parts in one.
	for _, parts := range [][][4]int{
		{{0, 5, 5, 1}, {1, 5, 5, 6}, {2, 5, 5, 2}, {3, 5, 5, 5}, {4, 5, 5, 3}, {5, 5, 5, 4}},
		{{5, 0, 5, 1}, {5, 1, 5, 6}, {5, 2, 5, 2}, {5, 3, 5, 5}, {5, 4, 5, 3}, {5, 5, 5, 4}},
		{{5, 5, 0, 1}, {5, 5, 1, 6}, {5, 5, 2, 2}, {5, 5, 3, 5}, {5, 5, 4, 3}, {5, 5, 5, 4}},
		{{5, 5, 5, 0}, {5, 5, 5, 1}, {5, 5, 5, 2}, {5, 5, 5, 3}, {5, 5, 5, 4}, {5, 5, 5, 5}},
		{{0, 9, 9, 9}, {1, 0, 9, 8}, {1, 1, 0, 7}, {1, 1, 1, 3}, {1, 1, 1, 6}, {1, 2, 0, 0}, {2, 0, 0, 1}},
	} {
		keys := keysOf(parts)
		orders(keys, func(l []api.Key) {
			h := filled(t, len(l), l...)
			holds(t, h, keys)
			pops(t, h, keys)
		})
	}
}

func TestFarNumbers(t *testing.T) { // P8.1, P8.2, P8.3, P1
	for part := range 4 {
		var keys []api.Key
		for i, n := range far {
			parts := [4]int{0, 0, 0, i * 3 % 7}
			parts[part] = n
			keys = append(keys, key(parts[0], parts[1], parts[2], parts[3]))
		}
		for shift := range keys {
			l := append(slices.Clone(keys[shift:]), keys[:shift]...)
			pops(t, filled(t, 7, l...), keys)
			h := filled(t, 7, l...)
			for _, k := range l {
				change(t, h, k, true)
				remove(t, h, k.Id, true)
				remove(t, h, k.Id, false)
				push(t, h, k, api.OK)
			}
			pops(t, h, keys)
		}
	}
}

func TestOneKey(t *testing.T) { // P8.1, P8.2
	h := newHeap(t, 1)
	for round := range 3 {
		push(t, h, api.Key{Prio: 5, Id: round}, api.OK)
		push(t, h, api.Key{Prio: 5, Id: round}, api.ErrTwice)
		push(t, h, api.Key{Prio: 5, Id: 7}, api.ErrFull)
		for _, prio := range []int{9, 1, 1, math.MinInt, math.MaxInt} {
			change(t, h, api.Key{Prio: prio, Id: round}, true)
			holds(t, h, []api.Key{{Prio: prio, Id: round}})
		}
		change(t, h, api.Key{Id: 7}, false)
		remove(t, h, 7, false)
		holds(t, h, []api.Key{{Prio: math.MaxInt, Id: round}})
		remove(t, h, round, true)
		remove(t, h, round, false)
		holds(t, h, nil)
	}
}

func TestRemove(t *testing.T) { // P8.2
	keys := byPrio(4, 2, 6, 1, 5, 3, 7)
	for _, prio := range []int{1, 7, 4, 2, 6} {
		h := filled(t, 9, keys...)
		i := slices.IndexFunc(keys, func(k api.Key) bool { return k.Prio == prio })
		remove(t, h, keys[i].Id, true)
		left := inOrder(slices.Delete(slices.Clone(keys), i, i+1))
		holds(t, h, left)
		remove(t, h, keys[i].Id, false)
		holds(t, h, left)
		pops(t, h, left)
	}
}

func TestRemoveWhereTheLastGoesUp(t *testing.T) { // P8.2
	// Pushed so, each stays where it is laid: 10 stands over 60 and 61, 20 over 21 and 22, which is last and less than 60.
	keys := keysOf([][4]int{{0, 0, 0, 1}, {0, 10, 0, 2}, {0, 2, 0, 3}, {0, 60, 0, 4}, {0, 61, 0, 5}, {0, 20, 0, 6}, {0, 3, 0, 7}, {0, 70, 0, 8}, {0, 71, 0, 9}, {0, 72, 0, 10}, {0, 73, 0, 11}, {0, 21, 0, 12}, {0, 22, 0, 13}})
	for _, k := range keys {
		h := filled(t, len(keys), keys...)
		remove(t, h, k.Id, true)
		left := inOrder(slices.DeleteFunc(slices.Clone(keys), func(x api.Key) bool { return x == k }))
		holds(t, h, left)
		pops(t, h, left)
	}
}

func TestChange(t *testing.T) { // P8.2
	keys := byPrio(40, 20, 60, 10, 50, 30, 70)
	for i, k := range keys {
		// Up and down past each other one, between each two, and where it was.
		for _, prio := range []int{5, 10, 15, 20, 25, 30, 35, 40, 45, 50, 55, 60, 65, 70, 75} {
			for _, release := range []int{0, 7, 9} {
				h := filled(t, len(keys), keys...)
				x := api.Key{Band: k.Band, Prio: prio, Release: release, Id: k.Id}
				change(t, h, x, true)
				want := slices.Clone(keys)
				want[i] = x
				holds(t, h, inOrder(want))
				pops(t, h, inOrder(want))
			}
		}
	}
}

func TestChangeOfEachPart(t *testing.T) { // P8.2
	keys := keysOf([][4]int{{1, 1, 1, 1}, {1, 1, 1, 2}, {1, 1, 1, 3}})
	for _, x := range keysOf([][4]int{{0, 1, 1, 2}, {2, 1, 1, 2}, {1, 0, 1, 2}, {1, 2, 1, 2}, {1, 1, 0, 2}, {1, 1, 2, 2}, {1, 1, 1, 2}, {0, 9, 9, 2}, {2, 0, 0, 2}}) {
		h := filled(t, 3, keys...)
		change(t, h, x, true)
		pops(t, h, inOrder([]api.Key{keys[0], x, keys[2]}))
	}
}

func TestOfIdsThatAreNotThere(t *testing.T) { // P8.2
	keys := mixedKeys(40)
	for _, n := range []int{0, 1, 2, 7, 40} {
		h, want := filled(t, 40, keys[:n]...), inOrder(keys[:n])
		ids := slices.Clone(far)
		for _, k := range keys[n:] {
			ids = append(ids, k.Id)
		}
		for _, id := range ids {
			if slices.ContainsFunc(want, func(k api.Key) bool { return k.Id == id }) {
				continue
			}
			remove(t, h, id, false)
			change(t, h, api.Key{Band: -1, Id: id}, false)
			change(t, h, api.Key{Band: 9, Id: id}, false)
			holds(t, h, want)
		}
		pops(t, h, want)
	}
}

func TestRemoveAndChangeAtEachPlace(t *testing.T) { // P8.2, P8.3
	for n := 1; n <= 33; n++ {
		keys := mixedKeys(n)
		want := inOrder(keys)
		for i, k := range want {
			h := filled(t, n, keys...)
			remove(t, h, k.Id, true)
			pops(t, h, slices.Delete(slices.Clone(want), i, i+1))
			for _, x := range []api.Key{key(-1, 0, 0, k.Id), key(9, 0, 0, k.Id), key(1, 5, 6, k.Id), key(2, 0, 0, k.Id), k} {
				h := filled(t, n, keys...)
				change(t, h, x, true)
				changed := slices.Clone(want)
				changed[i] = x
				holds(t, h, inOrder(changed))
				pops(t, h, inOrder(changed))
			}
		}
	}
}

func TestRemoveTillNoneIsLeft(t *testing.T) { // P8.2
	for _, n := range []int{1, 2, 3, 8, 31, 32, 100, 1024} {
		keys := mixedKeys(n)
		h := newHeap(t, n)
		for round := range 3 {
			for _, k := range keys {
				push(t, h, k, api.OK)
			}
			holds(t, h, inOrder(keys))
			for i := range keys {
				// Another order each round: as pushed, the contrary, from the middle on.
				at := []int{i, n - 1 - i, (i + n/2) % n}[round]
				remove(t, h, keys[at].Id, true)
				sifted(t, h)
			}
			pops(t, h, nil)
		}
		push(t, h, keys[0], api.OK)
		pops(t, h, keys[:1])
	}
}

func TestRisingFallingAndMixed(t *testing.T) { // P8.1, P8.3
	for _, n := range []int{1, 2, 3, 4, 7, 8, 9, 100, 1023, 1024} {
		mixed := mixedKeys(n)
		rising := inOrder(mixed)
		falling := slices.Clone(rising)
		slices.Reverse(falling)
		h := newHeap(t, n)
		for _, keys := range [][]api.Key{rising, falling, mixed} {
			for _, k := range keys {
				push(t, h, k, api.OK)
			}
			holds(t, h, rising)
			pops(t, h, rising)
		}
	}
}

// step does one of five things to both, and holds the answers against each other.
func step(t *testing.T, h *Heap, m *model, what int, k api.Key) {
	t.Helper()
	switch what {
	case 0, 1:
		push(t, h, k, m.push(k))
	case 2:
		x, ok := h.Pop()
		if want, there := m.pop(); x != want || ok != there {
			t.Fatalf("Pop: %v, %v; want %v, %v", x, ok, want, there)
		}
	case 3:
		remove(t, h, k.Id, m.remove(k.Id))
	case 4:
		change(t, h, k, m.change(k))
	}
}

// deed is a thing that step does.
type deed struct {
	what int
	k    api.Key
}

// deeds are a pop, and of each of three Ids a removal, and in each of two bands a push and a change.
func deeds() []deed {
	l := []deed{{what: 2}}
	for id := range 3 {
		l = append(l, deed{3, api.Key{Id: id}})
		for band := range 2 {
			k := api.Key{Band: band, Id: id}
			l = append(l, deed{0, k}, deed{4, k})
		}
	}
	return l
}

func TestAllWaysOfFewSteps(t *testing.T) { // P8.1, P8.2, P8.3
	const steps = 4
	does, ways := deeds(), 1
	for range steps {
		ways *= len(does)
	}
	for room := 1; room <= 3; room++ {
		for way := range ways {
			h, m := newHeap(t, room), &model{room: room}
			for range steps {
				do := does[way%len(does)]
				step(t, h, m, do.what, do.k)
				way /= len(does)
			}
			if l := h.Sorted(); !slices.Equal(l, m.list) {
				t.Fatalf("Sorted: %v; want %v", l, m.list)
			}
			for range m.list {
				step(t, h, m, 2, api.Key{})
			}
		}
	}
}

func TestManySteps(t *testing.T) { // P8.1, P8.2, P8.3
	r := rand.New(rand.NewSource(8))
	for _, room := range []int{1, 2, 3, 5, 16, 64, 300} {
		for range 8 {
			h, m := newHeap(t, room), &model{room: room}
			// A few values a part, so that many keys are alike in it; some more Ids than there is room for.
			values, ids := 1+r.Intn(5), room+1+r.Intn(room+1)
			for range 1500 {
				k := api.Key{Band: r.Intn(3), Prio: r.Intn(values), Release: r.Intn(values) - 1, Id: r.Intn(ids) - ids/2}
				step(t, h, m, r.Intn(5), k)
				holds(t, h, m.list)
			}
			pops(t, h, m.list)
		}
	}
}

func TestManyStepsOfTheGreatestRoom(t *testing.T) { // P8.1, P8.2, P8.3
	r := rand.New(rand.NewSource(1024))
	keys := mixedKeys(1024)
	h, m := filled(t, 1024, keys...), &model{room: 1024, list: inOrder(keys)}
	for i := range 3000 {
		step(t, h, m, r.Intn(5), api.Key{Band: r.Intn(3), Prio: r.Intn(20), Release: r.Intn(20), Id: r.Intn(1100) - 550})
		if i%50 == 0 {
			holds(t, h, m.list)
		}
	}
	pops(t, h, m.list)
}

func TestWhatIsPoppedIsInOrder(t *testing.T) { // P8.3
	r := rand.New(rand.NewSource(83))
	for range 300 {
		h := newHeap(t, 200)
		for range 400 {
			k := api.Key{Band: r.Intn(3), Prio: r.Intn(256), Release: r.Intn(1000), Id: r.Intn(150)}
			switch r.Intn(4) {
			case 0, 1:
				h.Push(k)
			case 2:
				h.Remove(k.Id)
			case 3:
				h.Change(k)
			}
		}
		n := h.Len()
		last, ok := h.Pop()
		for i := 1; i < n; i++ {
			k, there := h.Pop()
			if !ok || !there || Compare(last, k) != -1 {
				t.Fatalf("%v was popped behind %v", k, last)
			}
			last = k
		}
		pops(t, h, nil)
	}
}

func TestAnswersAreNewMemory(t *testing.T) { // P8.4
	keys := mixedKeys(20)
	want := inOrder(keys)
	h := filled(t, 40, keys...)
	l, again := h.Sorted(), h.Sorted()
	for i := range l {
		l[i] = api.Key{Band: -i, Id: -1000 - i}
	}
	if !slices.Equal(again, want) {
		t.Errorf("two answers share memory: %v", again)
	}
	holds(t, h, want)
	// What is laid behind an answer, or within it, lands in no place of the heap.
	_ = append(h.Sorted(), api.Key{Band: -1, Id: 999})
	_ = append(h.Sorted()[:1], l...)
	holds(t, h, want)
	push(t, h, api.Key{Band: -1, Id: 999}, api.OK)
	change(t, h, api.Key{Band: 9, Id: want[3].Id}, true)
	remove(t, h, want[5].Id, true)
	h.Pop()
	if !slices.Equal(again, want) {
		t.Errorf("an answer changed with the heap: %v", again)
	}
}

func TestSortedOfOneAndOfNone(t *testing.T) { // P8.4
	h := newHeap(t, 1)
	_ = append(h.Sorted(), api.Key{Id: 5})
	holds(t, h, nil)
	push(t, h, api.Key{Id: 1}, api.OK)
	h.Sorted()[0] = api.Key{Id: 2}
	holds(t, h, []api.Key{{Id: 1}})
}

func TestKeysAreValues(t *testing.T) { // P8.4
	k := api.Key{Band: 1, Id: 1}
	h := filled(t, 2, k)
	k.Band = 0
	holds(t, h, []api.Key{{Band: 1, Id: 1}})
	x, _ := h.Peek()
	x.Prio = -5
	holds(t, h, []api.Key{{Band: 1, Id: 1}})
	change(t, h, k, true)
	k.Id = 7
	holds(t, h, []api.Key{{Id: 1}})
}

func TestHeapsShareNothing(t *testing.T) { // P8.4
	a, b := filled(t, 2, byPrio(2, 1)...), newHeap(t, 2)
	holds(t, b, nil)
	push(t, b, api.Key{Id: 100}, api.OK)
	holds(t, a, inOrder(byPrio(2, 1)))
	remove(t, a, 100, true)
	pops(t, b, []api.Key{{Id: 100}})
	pops(t, a, byPrio(2, 1)[1:])
}

func TestHeapsAtOnce(t *testing.T) { // P1, P8.3
	var all sync.WaitGroup
	for i := range 8 {
		all.Go(func() {
			h, _ := New(100 + i)
			want := inOrder(mixedKeys(100 + i))
			for range 20 {
				for _, k := range mixedKeys(100 + i) {
					h.Push(k)
				}
				for _, x := range want {
					if k, ok := h.Pop(); k != x || !ok {
						t.Errorf("Pop: %v, %v; want %v", k, ok, x)
					}
				}
			}
		})
	}
	all.Wait()
}

func TestAHeapWithNoRoomDoesNotPanic(t *testing.T) { // P1
	var h Heap
	holds(t, &h, nil)
	push(t, &h, api.Key{Id: 1}, api.ErrFull)
	remove(t, &h, 1, false)
	remove(t, &h, 0, false)
	change(t, &h, api.Key{}, false)
	pops(t, &h, nil)
}
