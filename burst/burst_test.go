package burst

import (
	"math"
	"math/big"
	"math/rand"
	"slices"
	"testing"

	"pendulum/api"
)

const (
	lastTime   = 1 << 40
	mostLength = 1000
	mostGap    = 1<<20 + 1000
)

var (
	// lengths and gaps are some that may be, with their first and last ones.
	lengths = []int{1, 2, 3, 4, 5, 7, 10, 63, 64, 65, 500, 998, 999, 1000}
	gaps    = []int{1, 2, 3, 4, 5, 7, 10, 63, 64, 65, 999, 1000, 1001, 1 << 16, 1<<20 - 1, 1 << 20, 1<<20 + 1, mostGap - 2, mostGap - 1, mostGap}
	// wrongs are numbers that are neither a length nor a gap.
	wrongs = []int{math.MinInt, math.MinInt + 1, -lastTime, -1000, -2, -1, 0, mostGap + 1, 2 * mostGap, 1<<32 + 1, lastTime, 1 << 62, math.MaxInt - 1, math.MaxInt}
)

// walk goes from tick to tick, up to the last fault, and tells with which of them bursts begin: left are the ticks that the burst has yet.
func walk(l []int, b int) []int {
	var begins []int
	left := 0
	for t := range last(l) + 1 {
		left = max(left-1, 0)
		if slices.Contains(l, t) && left == 0 {
			begins = append(begins, t)
			left = b
		}
	}
	return begins
}

func last(l []int) int {
	if len(l) == 0 {
		return -1
	}
	return l[len(l)-1]
}

// take takes bursts out of the faults, one by one: the least fault that is left, and all of so many ticks from it on.
func take(l []int, b int) (begins []int, bursts [][]int) {
	for left := slices.Clone(l); len(left) > 0; {
		end := new(big.Int).Add(big.NewInt(int64(left[0])), big.NewInt(int64(b)))
		n := 0
		for n < len(left) && big.NewInt(int64(left[n])).Cmp(end) < 0 {
			n++
		}
		begins = append(begins, left[0])
		bursts = append(bursts, left[:n])
		left = left[n:]
	}
	return begins, bursts
}

// apart tells whether so many ticks or more lie between each of these and the next one, by numbers without bounds.
func apart(begins []int, g int) bool {
	for i := 1; i < len(begins); i++ {
		least := new(big.Int).Add(big.NewInt(int64(begins[i-1])), big.NewInt(int64(g)))
		if big.NewInt(int64(begins[i])).Cmp(least) < 0 {
			return false
		}
	}
	return true
}

// widest is the greatest gap of which the beginnings are legal, found by halving.
func widest(begins []int) int {
	from, to := 1, mostGap
	for from < to {
		middle := (from + to + 1) / 2
		if apart(begins, middle) {
			from = middle
		} else {
			to = middle - 1
		}
	}
	return from
}

// counted counts the ticks from 0 to w and b less 2 that g divides.
func counted(w, b, g int) int {
	n := 0
	for t := 0; w > 0 && t < w+b-1; t++ {
		if t%g == 0 {
			n++
		}
	}
	return n
}

// within counts tick by tick how many faults there are.
func within(l []int, from, to int) int {
	n := 0
	for t := from; t < to; t++ {
		if slices.Contains(l, t) {
			n++
		}
	}
	return n
}

// rows calls f with all rows of faults below so many ticks.
func rows(ticks int, f func([]int)) {
	for bits := range 1 << ticks {
		var l []int
		for t := range ticks {
			if bits>>t&1 == 1 {
				l = append(l, t)
			}
		}
		f(l)
	}
}

// chance is a row of so many faults, the next one at most so far behind the last.
func chance(r *rand.Rand, n, far int) []int {
	var l []int
	t := r.Intn(far)
	for range n {
		l = append(l, t)
		t += 1 + r.Intn(far)
	}
	return l
}

// clumps are faults in clumps that are about so far apart.
func clumps(r *rand.Rand, n, far int) []int {
	var l []int
	t := r.Intn(far)
	for range n {
		for range 1 + r.Intn(6) {
			l = append(l, t)
			t += 1 + r.Intn(3)
		}
		t += far/2 + r.Intn(far)
	}
	return l
}

func later(l []int, by int) []int {
	var other []int
	for _, t := range l {
		other = append(other, t+by)
	}
	return other
}

// run are so many faults, one behind the other.
func run(from, n int) []int {
	var l []int
	for i := range n {
		l = append(l, from+i)
	}
	return l
}

func starts(t *testing.T, l []int, b int, want ...int) {
	t.Helper()
	if s := Starts(l, b); !slices.Equal(s, want) {
		t.Fatalf("Starts(%v, %d): %v; want %v", short(l), b, short(s), short(want))
	}
}

// short is a row that can be read.
func short(l []int) []int { return l[:min(len(l), 30)] }

// gap holds Gap, and Legal around it.
func gap(t *testing.T, l []int, b, want int) {
	t.Helper()
	if g := Gap(l, b); g != want {
		t.Fatalf("Gap(%v, %d): %d; want %d", short(l), b, g, want)
	}
	for _, g := range append(slices.Clone(gaps), want-2, want-1, want, want+1, want+2) {
		legal(t, l, b, g, g >= 1 && g <= want)
	}
}

func legal(t *testing.T, l []int, b, g int, want bool) {
	t.Helper()
	if ok := Legal(l, b, g); ok != want {
		t.Fatalf("Legal(%v, %d, %d): %v; want %v", short(l), b, g, ok, want)
	}
}

func most(t *testing.T, w, b, g, want int) {
	t.Helper()
	if n := Most(w, b, g); n != want {
		t.Fatalf("Most(%d, %d, %d): %d; want %d", w, b, g, n, want)
	}
}

func in(t *testing.T, l []int, from, to, want int) {
	t.Helper()
	if n := In(l, from, to); n != want {
		t.Fatalf("In(%v, %d, %d): %d; want %d", short(l), from, to, n, want)
	}
}

// holds holds a row of faults against the bursts that are taken out of it.
func holds(t *testing.T, l []int, b int) {
	t.Helper()
	begins, _ := take(l, b)
	starts(t, l, b, begins...)
	gap(t, l, b, widest(begins))
}

func TestTheExample(t *testing.T) { // P18.1
	l := []int{3, 4, 9}
	starts(t, l, 2, 3, 9)
	gap(t, l, 2, 6)
	legal(t, l, 2, 6, true)
	legal(t, l, 2, 7, false)
}

func TestAllRowsOfFewTicks(t *testing.T) { // P18.1
	rows(12, func(l []int) {
		for b := 1; b <= 14; b++ {
			begins := walk(l, b)
			starts(t, l, b, begins...)
			widest := mostGap
			for g := 1; g <= 15; g++ {
				ok := apart(begins, g)
				legal(t, l, b, g, ok)
				if !ok {
					widest = min(widest, g-1)
				}
			}
			gap(t, l, b, widest)
		}
	})
}

func TestInOfAllRowsOfFewTicks(t *testing.T) { // P18.1
	rows(9, func(l []int) {
		for from := -3; from <= 12; from++ {
			for to := -3; to <= 12; to++ {
				in(t, l, from, to, within(l, from, to))
			}
		}
	})
}

func TestChance(t *testing.T) { // P18.1
	r := rand.New(rand.NewSource(18))
	for range 600 {
		for _, far := range []int{1, 2, 3, 8, 64, 900, 2000} {
			for _, l := range [][]int{chance(r, r.Intn(40), far), clumps(r, r.Intn(10), far)} {
				for _, b := range []int{1, 2, 3, 1 + r.Intn(20), 1 + r.Intn(1000), 1000} {
					holds(t, l, b)
				}
				from, to := r.Intn(3000)-10, r.Intn(3000)-10
				in(t, l, from, to, within(l, from, to))
			}
		}
	}
}

// The walk tick by tick, of rows that are longer.
func TestChanceTickByTick(t *testing.T) { // P18.1
	r := rand.New(rand.NewSource(181))
	for range 150 {
		for _, far := range []int{2, 5, 20} {
			for _, l := range [][]int{chance(r, 1+r.Intn(30), far), clumps(r, 1+r.Intn(6), far)} {
				for b := 1; b <= 40; b += 1 + b/6 {
					begins := walk(l, b)
					starts(t, l, b, begins...)
					gap(t, l, b, widest(begins))
				}
			}
		}
	}
}

// The faults may be any times, up to 2^62.
func TestFarTimes(t *testing.T) { // P18.1, P1
	r := rand.New(rand.NewSource(182))
	for range 200 {
		for _, far := range []int{2, 30, 1500, 3 * mostGap} {
			l := clumps(r, 1+r.Intn(8), far)
			for _, end := range []int{lastTime, 1 << 62} {
				by := end - last(l)
				for _, b := range lengths {
					holds(t, later(l, by), b)
					holds(t, append([]int{0}, later(l, by)...), b)
				}
			}
		}
	}
	starts(t, []int{0, 1 << 62}, 1000, 0, 1<<62)
	gap(t, []int{0, 1 << 62}, 1, mostGap)
}

func TestNoFaults(t *testing.T) { // P18.1, P1
	for _, l := range [][]int{nil, {}, make([]int, 0, 5)} {
		for _, b := range lengths {
			starts(t, l, b)
			gap(t, l, b, mostGap)
			for _, g := range gaps {
				legal(t, l, b, g, true)
			}
		}
		for _, from := range []int{math.MinInt, -1, 0, 5, lastTime, math.MaxInt} {
			for _, to := range []int{math.MinInt, -1, 0, 5, lastTime, math.MaxInt} {
				in(t, l, from, to, 0)
			}
		}
	}
}

func TestOneFault(t *testing.T) { // P18.1
	for _, at := range []int{0, 1, 7, 999, 1000, 1001, mostGap, lastTime - 1, lastTime} {
		l := []int{at}
		for _, b := range lengths {
			starts(t, l, b, at)
			gap(t, l, b, mostGap)
			for _, g := range gaps {
				legal(t, l, b, g, true)
			}
		}
		in(t, l, at, at, 0)
		in(t, l, at, at+1, 1)
		in(t, l, at-1, at, 0)
		in(t, l, at-1, at+1, 1)
		in(t, l, at+1, at+2, 0)
		in(t, l, at+1, at, 0)
		in(t, l, 0, lastTime+1, 1)
	}
	in(t, []int{lastTime}, 0, lastTime, 0)
	in(t, []int{lastTime}, lastTime, lastTime+1, 1)
	in(t, []int{lastTime}, math.MinInt, math.MaxInt, 1)
}

func TestOneBehindTheOther(t *testing.T) { // P18.1
	for _, from := range []int{0, 1, 100, lastTime - 2999} {
		for _, n := range []int{2, 3, 63, 64, 65, 999, 1000, 1001, 2000, 2001, 3000} {
			l := run(from, n)
			for _, b := range lengths {
				var want []int
				for at := from; at < from+n; at += b {
					want = append(want, at)
				}
				starts(t, l, b, want...)
				if len(want) > 1 {
					gap(t, l, b, b)
				} else {
					gap(t, l, b, mostGap)
				}
			}
			in(t, l, from+1, from+n-1, n-2)
			in(t, l, from, from+n, n)
		}
	}
}

// The last tick of a burst is in it, the first one behind it isn't.
func TestAroundABurstsEnd(t *testing.T) { // P18.1
	for _, from := range []int{0, 1, 77, lastTime - 3001} {
		for _, b := range lengths {
			end := from + b
			if b > 1 {
				starts(t, []int{from, end - 1}, b, from)
				gap(t, []int{from, end - 1}, b, mostGap)
				starts(t, []int{from, end - 1, end}, b, from, end)
				gap(t, []int{from, end - 1, end}, b, b)
			}
			starts(t, []int{from, end}, b, from, end)
			gap(t, []int{from, end}, b, b)
			starts(t, []int{from, end + 1}, b, from, end+1)
			gap(t, []int{from, end + 1}, b, b+1)
			// The second burst has its ticks from its own beginning on.
			starts(t, []int{from, end, end + b}, b, from, end, end+b)
			if b > 2 {
				starts(t, []int{from, end + 1, end + b}, b, from, end+1)
				starts(t, []int{from, end + 1, end + b, end + b + 1}, b, from, end+1, end+b+1)
				gap(t, []int{from, end + 1, end + b, end + b + 1}, b, b)
			}
		}
	}
}

// A fault that is no beginning is as far from the next burst as it likes: the gap goes from beginning to beginning.
func TestGapGoesFromBeginningToBeginning(t *testing.T) { // P18.1
	l := []int{10, 12, 15, 20, 21, 22, 24, 40}
	starts(t, l, 6, 10, 20, 40)
	gap(t, l, 6, 10)
	starts(t, l, 4, 10, 15, 20, 24, 40)
	gap(t, l, 4, 4)
	starts(t, l, 5, 10, 15, 20, 40)
	gap(t, l, 5, 5)
	starts(t, l, 11, 10, 21, 40)
	gap(t, l, 11, 11)
	starts(t, l, 30, 10, 40)
	gap(t, l, 30, 30)
	starts(t, l, 31, 10)
	gap(t, l, 31, mostGap)
}

// The least distance counts, wherever it is.
func TestTheLeastDistance(t *testing.T) { // P18.1
	for at := range 8 {
		for _, least := range []int{3, 4, 50, 99} {
			l := []int{5}
			for i := range 8 {
				by := 100
				if i == at {
					by = least
				}
				l = append(l, last(l)+by)
			}
			gap(t, l, 3, least)
			gap(t, l, 2, least)
		}
	}
}

// Bursts that begin just a gap behind the one ahead, and one tick less.
func TestAtEachGap(t *testing.T) { // P18.1
	for _, g := range gaps {
		for _, b := range lengths {
			if b > g {
				continue
			}
			for _, from := range []int{0, 3, lastTime - 4*mostGap} {
				l := []int{from, from + g, from + 2*g, from + 3*g}
				starts(t, l, b, l...)
				gap(t, l, b, g)
				legal(t, l, b, g, true)
				l[3]++
				gap(t, l, b, g)
				if b < g {
					l[3] -= 2
					starts(t, l, b, l...)
					gap(t, l, b, g-1)
					legal(t, l, b, g, false)
					legal(t, l, b, g-1, true)
				}
			}
		}
	}
}

func TestBeyondMaxGap(t *testing.T) { // P18.1
	if api.MaxGap != mostGap || api.MaxBurst != mostLength || api.MaxTick != lastTime {
		t.Fatal("other limits than the chapter's")
	}
	for _, b := range lengths {
		for _, by := range []int{mostGap, mostGap + 1, mostGap + 2, 2 * mostGap, 1 << 32, lastTime} {
			gap(t, []int{0, by}, b, mostGap)
			legal(t, []int{0, by}, b, mostGap, true)
		}
		gap(t, []int{0, mostGap - 1}, b, mostGap-1)
		legal(t, []int{0, mostGap - 1}, b, mostGap, false)
		gap(t, []int{0, 3 * mostGap, 4*mostGap - 1}, b, mostGap-1)
	}
}

func TestMost(t *testing.T) { // P18.1
	for w := 0; w <= 80; w++ {
		for b := 1; b <= 24; b++ {
			for g := 1; g <= 110; g++ {
				most(t, w, b, g, counted(w, b, g))
			}
		}
	}
	for _, w := range []int{0, 1, 2, 63, 64, 999, 1000, 1001, 5000} {
		for _, b := range lengths {
			for _, g := range gaps {
				most(t, w, b, g, counted(w, b, g))
			}
		}
	}
}

func TestMostOfGreatNumbers(t *testing.T) { // P18.1, P1
	for _, w := range []int{1, 2, 3, 1000, 1 << 20, 1<<20 + 1, 1 << 31, 1<<32 + 1, lastTime - 1000, lastTime - 1, lastTime} {
		for _, b := range lengths {
			for _, g := range gaps {
				n := new(big.Int).Add(big.NewInt(int64(w)), big.NewInt(int64(b-1)))
				n, rest := n.QuoRem(n, big.NewInt(int64(g)), new(big.Int))
				if rest.Sign() > 0 {
					n.Add(n, big.NewInt(1))
				}
				most(t, w, b, g, int(n.Int64()))
			}
		}
	}
	most(t, lastTime, 1, 1, lastTime)
	most(t, lastTime, 1000, 1, lastTime+999)
	most(t, lastTime, 1000, mostGap, (lastTime+999+mostGap-1)/mostGap)
}

func TestMostOfNoTicks(t *testing.T) { // P18.1
	for _, b := range lengths {
		for _, g := range gaps {
			most(t, 0, b, g, 0)
		}
	}
}

// One tick more than the gap divides makes one more.
func TestMostWhereTheGapDivides(t *testing.T) { // P18.1
	for _, b := range lengths {
		for _, g := range gaps {
			for _, times := range []int{1, 2, 3, 10, 1000} {
				w := times*g - b + 1
				if w < 2 {
					continue
				}
				less := times
				if g == 1 {
					less--
				}
				most(t, w-1, b, g, less)
				most(t, w, b, g, times)
				most(t, w+1, b, g, times+1)
			}
		}
	}
}

func TestMostRises(t *testing.T) { // P18.1
	for w := 0; w <= 60; w++ {
		for b := 1; b <= 20; b++ {
			for g := 1; g <= 80; g++ {
				n := Most(w, b, g)
				if Most(w+1, b, g) < n || Most(w, b+1, g) < n || g > 1 && Most(w, b, g-1) < n {
					t.Fatalf("Most(%d, %d, %d) is %d: less of more", w, b, g, n)
				}
			}
		}
	}
	r := rand.New(rand.NewSource(183))
	for range 20000 {
		w, b, g := r.Intn(lastTime+1), 1+r.Intn(mostLength), 1+r.Intn(mostGap)
		more, longer, closer := w+r.Intn(lastTime+1-w), b+r.Intn(mostLength+1-b), 1+r.Intn(g)
		n := Most(w, b, g)
		if Most(more, b, g) < n || Most(w, longer, g) < n || Most(w, b, closer) < n || Most(more, longer, closer) < n {
			t.Fatalf("Most(%d, %d, %d) is %d: less of %d, %d or %d", w, b, g, n, more, longer, closer)
		}
	}
}

// There are faults of which it is as many: bursts with their first and last tick struck, each a gap behind the one ahead.
func TestMostIsReached(t *testing.T) { // P18.2
	for _, b := range []int{1, 2, 3, 7, 20} {
		for _, g := range []int{b, b + 1, b + 2, 2 * b, 50} {
			var l []int
			for at := 0; at < 400; at += g {
				l = append(l, at)
				if b > 1 {
					l = append(l, at+b-1)
				}
			}
			legal(t, l, b, g, true)
			for w := 1; w <= 300; w++ {
				if n := hit(l, b, b-1, w); n != Most(w, b, g) {
					t.Fatalf("Most(%d, %d, %d): %d; want %d", w, b, g, Most(w, b, g), n)
				}
			}
		}
	}
}

// hit counts the bursts that have a fault in so many ticks from one on.
func hit(l []int, b, from, w int) int {
	_, bursts := take(l, b)
	n := 0
	for _, faults := range bursts {
		if slices.ContainsFunc(faults, func(t int) bool { return t >= from && t-from < w }) {
			n++
		}
	}
	return n
}

func TestNoMoreThanMost(t *testing.T) { // P18.2
	rows(9, func(l []int) {
		for b := 1; b <= 10; b++ {
			for from := -1; from <= 9; from++ {
				for w := 0; w <= 10-from; w++ {
					bursts, faults := hit(l, b, from, w), In(l, from, from+w)
					for g := 1; g <= 10 && Legal(l, b, g); g++ {
						if n := Most(w, b, g); bursts > n || faults > n*b {
							t.Fatalf("%v, length %d, gap %d: %d bursts and %d faults in %d ticks from %d on; Most says %d", l, b, g, bursts, faults, w, from, n)
						}
					}
				}
			}
		}
	})
}

func TestNoMoreThanMostByChance(t *testing.T) { // P18.2
	r := rand.New(rand.NewSource(184))
	for range 300 {
		for _, far := range []int{2, 10, 100, 1200} {
			l := clumps(r, 2+r.Intn(8), far)
			for _, b := range []int{1, 2, 1 + r.Intn(12), 1 + r.Intn(1000), 1000} {
				g := Gap(l, b)
				for range 20 {
					from, w := r.Intn(last(l)+10)-5, r.Intn(last(l)+10)
					n := Most(w, b, g)
					if bursts, faults := hit(l, b, from, w), In(l, from, from+w); bursts > n || faults > n*b {
						t.Fatalf("%v, length %d, gap %d: %d bursts and %d faults in %d ticks from %d on; Most says %d", l, b, g, bursts, faults, w, from, n)
					}
				}
			}
		}
	}
}

// Each fault is in one burst, and each burst begins with the first fault behind the one ahead.
func TestEachFaultIsInOneBurst(t *testing.T) { // P18.1, P18.2
	r := rand.New(rand.NewSource(185))
	for range 400 {
		for _, far := range []int{1, 2, 10, 700, 1100} {
			l := chance(r, 1+r.Intn(60), far)
			for _, b := range []int{1, 2, 5, 1 + r.Intn(1000), 1000} {
				s := Starts(l, b)
				sum := 0
				for i, at := range s {
					sum += In(l, at, at+b)
					if !slices.Contains(l, at) {
						t.Fatalf("Starts(%v, %d): %v: no fault at %d", l, b, s, at)
					}
					if i > 0 && (at < s[i-1]+b || In(l, s[i-1]+b, at) != 0) {
						t.Fatalf("Starts(%v, %d): %v: %d isn't the first fault behind the burst at %d", l, b, s, at, s[i-1])
					}
				}
				if s[0] != l[0] || sum != len(l) {
					t.Fatalf("Starts(%v, %d): %v: %d of %d faults are in them", l, b, s, sum, len(l))
				}
			}
		}
	}
}

func TestLegalAndGapGoTogether(t *testing.T) { // P18.1
	r := rand.New(rand.NewSource(186))
	for range 20 {
		for _, far := range []int{3, 40, 5000, 300000, 2 * mostGap} {
			l := clumps(r, 3, far)
			b := 1 + r.Intn(40)
			for g := 1; g <= mostGap; g += 1 + g/50 {
				legal(t, l, b, g, g <= Gap(l, b))
			}
		}
	}
}

func TestInOfEdges(t *testing.T) { // P18.1, P1
	l := []int{0, 5, 6, 9, lastTime - 1, lastTime}
	for _, x := range []struct{ from, to, want int }{
		{5, 5, 0}, {0, 0, 0}, {7, 7, 0}, {lastTime, lastTime, 0}, {lastTime + 1, lastTime + 1, 0}, // alike
		{6, 5, 0}, {9, 0, 0}, {1, 0, 0}, {lastTime + 1, 0, 0}, {math.MaxInt, math.MinInt, 0}, {lastTime, lastTime - 1, 0}, // from above to
		{0, 5, 1}, {0, 6, 2}, {0, 7, 3}, {6, 9, 1}, {6, 10, 2}, {7, 9, 0}, {7, 10, 1}, // to a fault, and one above it
		{5, 7, 2}, {6, 7, 1}, {4, 7, 2}, {5, 6, 1}, {9, 10, 1}, {10, 11, 0}, // from a fault
		{0, lastTime, 5}, {0, lastTime + 1, 6}, {1, lastTime, 4}, {1, lastTime + 1, 5}, {lastTime - 1, lastTime, 1}, {lastTime - 1, lastTime + 1, 2}, {lastTime, lastTime + 1, 1},
		{0, 1, 1}, {-1, 0, 0}, {-1, 1, 1}, {-5, 6, 2}, {math.MinInt, 0, 0}, {math.MinInt, 1, 1}, {math.MinInt, math.MaxInt, 6}, {10, math.MaxInt, 2}, {lastTime + 1, math.MaxInt, 0}, {math.MaxInt, math.MaxInt, 0}, {math.MinInt, math.MinInt, 0},
	} {
		in(t, l, x.from, x.to, x.want)
	}
}

// A row of all ticks from a time on is in parts as it is in one.
func TestInOfParts(t *testing.T) { // P18.1
	r := rand.New(rand.NewSource(187))
	for range 500 {
		l := chance(r, r.Intn(50), 9)
		a, b, c := r.Intn(200), r.Intn(200), r.Intn(200)
		cuts := []int{a, b, c}
		slices.Sort(cuts)
		if In(l, cuts[0], cuts[1])+In(l, cuts[1], cuts[2]) != In(l, cuts[0], cuts[2]) {
			t.Fatalf("%v: from %v on in parts isn't the same", l, cuts)
		}
		in(t, l, 0, last(l)+1, len(l))
	}
}

func TestALongRow(t *testing.T) { // P18.1, P1
	const n = 1 << 20
	l := make([]int, n)
	for i := range l {
		l[i] = i * 3
	}
	for _, x := range []struct{ b, count, gap int }{{1, n, 3}, {3, n, 3}, {4, n / 2, 6}, {6, n / 2, 6}, {7, (n + 2) / 3, 9}, {1000, (n + 333) / 334, 1002}} {
		s := Starts(l, x.b)
		if len(s) != x.count || s[0] != 0 || s[1] != x.gap {
			t.Fatalf("length %d: %d bursts, from %v on; want %d", x.b, len(s), short(s), x.count)
		}
		gap(t, l, x.b, x.gap)
	}
	in(t, l, 3, 3*n-3, n-2)
}

// roomy is a row with room behind its end, and all of it with the room.
func roomy(l []int) (row, whole []int) {
	whole = append(slices.Clone(l), -7, 5, 1<<50, -9, 0, 3)
	return whole[:len(l)], whole
}

func TestWhatIsHandedInStays(t *testing.T) { // P18.3
	r := rand.New(rand.NewSource(188))
	for range 200 {
		l, whole := roomy(chance(r, r.Intn(30), 12))
		was := slices.Clone(whole)
		for _, b := range []int{1, 2, 5, 12, 1000, 0, -1, 1001} {
			Starts(l, b)
			Legal(l, b, 7)
			Legal(l, b, 0)
			Gap(l, b)
		}
		In(l, 3, 90)
		In(l, 90, 3)
		if !slices.Equal(whole, was) {
			t.Fatalf("%v was changed: %v", was, whole)
		}
	}
}

func TestWhatIsAnsweredIsNew(t *testing.T) { // P18.3
	r := rand.New(rand.NewSource(189))
	for range 200 {
		l, whole := roomy(chance(r, 1+r.Intn(30), 12))
		was := slices.Clone(whole)
		for _, b := range []int{1, 2, 5, 12, 1000} {
			first := Starts(l, b)
			want := slices.Clone(first)
			spoil(first)
			if !slices.Equal(whole, was) {
				t.Fatalf("what was written into Starts(%v, %d) changed the faults: %v", was, b, whole)
			}
			again := Starts(l, b)
			if !slices.Equal(again, want) {
				t.Fatalf("Starts(%v, %d): %v, then %v", l, b, want, again)
			}
			// And the faults may change, too.
			spoil(whole)
			if !slices.Equal(again, want) {
				t.Fatalf("Starts(.., %d) was %v, and is %v behind a change of the faults", b, want, again)
			}
			copy(whole, was)
		}
	}
}

// spoil writes into a list, and into the room behind it.
func spoil(l []int) {
	l = l[:cap(l)]
	for i := range l {
		l[i] = -1000 - i
	}
}

// Of lengths and gaps that may not be nothing is promised but an end: no bursts.
func TestWrongNumbers(t *testing.T) { // P1
	for _, l := range [][]int{nil, {}, {0}, {3, 4, 9}, {0, lastTime}, {lastTime - 1, lastTime}} {
		for _, b := range append(slices.Clone(wrongs), 1001, 1002, mostGap) {
			starts(t, l, b)
			if g := Gap(l, b); g != 0 {
				t.Errorf("Gap(%v, %d): %d; want 0", l, b, g)
			}
			for _, g := range gaps {
				legal(t, l, b, g, false)
				most(t, 5, b, g, 0)
			}
			for _, g := range wrongs {
				legal(t, l, b, g, false)
				most(t, 5, b, g, 0)
			}
		}
		for _, g := range wrongs {
			for _, b := range lengths {
				legal(t, l, b, g, false)
				most(t, 5, b, g, 0)
				most(t, 0, b, g, 0)
			}
		}
	}
}

func TestMostOfWrongTicks(t *testing.T) { // P1
	for _, w := range []int{math.MinInt, math.MinInt + 1, -lastTime, -1000, -2, -1, 1<<62 + 1, math.MaxInt - 1, math.MaxInt} {
		for _, b := range lengths {
			for _, g := range gaps {
				most(t, w, b, g, 0)
			}
		}
	}
	most(t, 1<<62, 2, 1, 0)
}

// Of faults that don't rise, or are no times, nothing is promised but an end.
func TestWrongFaults(t *testing.T) { // P1
	far := []int{math.MinInt, -lastTime, -1, 0, 0, 1, lastTime, math.MaxInt}
	r := rand.New(rand.NewSource(180))
	for range 300 {
		r.Shuffle(len(far), func(i, j int) { far[i], far[j] = far[j], far[i] })
		for _, b := range append(slices.Clone(lengths), wrongs...) {
			Starts(far, b)
			Gap(far, b)
			for _, g := range append(slices.Clone(gaps), wrongs...) {
				Legal(far, b, g)
			}
		}
		in(t, far, math.MinInt, math.MaxInt, len(far)-1)
		in(t, far, 0, 1, 2)
	}
}
