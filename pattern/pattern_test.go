package pattern

import (
	"math"
	"math/big"
	"math/rand"
	"slices"
	"sync"
	"testing"

	"pendulum/api"
)

const (
	most = 64      // of (m,k)
	last = 1 << 40 // an n
)

var kinds = []int{api.Even, api.Deep}

// each goes through all right patterns.
func each(do func(kind, m, k int)) {
	for _, kind := range kinds {
		for k := 1; k <= most; k++ {
			for m := 1; m <= k; m++ {
				do(kind, m, k)
			}
		}
	}
}

// walked is, of each of the first so many jobs, whether it must be, told job by job.
func walked(kind, m, k, jobs int) []bool {
	var l []bool
	chosen, place := 0, 0
	for n := range jobs {
		must := false
		if kind == api.Deep {
			must = place < m
			place++
			if place == k {
				place = 0
			}
		} else if chosen*k < (n+1)*m {
			must = true
			chosen++
		}
		l = append(l, must)
	}
	return l
}

// reckoned is how many among the first n must be, in numbers that are never over.
func reckoned(kind, n, m, k int) int {
	by := big.NewInt(int64(k))
	whole, rest := new(big.Int), new(big.Int)
	if kind == api.Deep {
		whole.DivMod(big.NewInt(int64(n)), by, rest)
		whole.Mul(whole, big.NewInt(int64(m)))
		if rest.Cmp(big.NewInt(int64(m))) > 0 {
			rest.SetInt64(int64(m))
		}
		return int(whole.Add(whole, rest).Int64())
	}
	all := new(big.Int).Mul(big.NewInt(int64(n)), big.NewInt(int64(m)))
	whole.DivMod(all, by, rest)
	if rest.Sign() > 0 {
		whole.Add(whole, big.NewInt(1))
	}
	return int(whole.Int64())
}

// hold asks Count and Must of an n against what is reckoned.
func hold(t *testing.T, kind, n, m, k int) {
	t.Helper()
	want := reckoned(kind, n, m, k)
	if c := Count(kind, n, m, k); c != want {
		t.Fatalf("Count(%d, %d, %d, %d): %d; want %d", kind, n, m, k, c, want)
	}
	must := reckoned(kind, n+1, m, k) == want+1
	if b := Must(kind, n, m, k); b != must {
		t.Fatalf("Must(%d, %d, %d, %d): %v; want %v", kind, n, m, k, b, must)
	}
}

// yes is a row, as 1 and 0.
func yes(text string) []bool {
	var l []bool
	for _, c := range text {
		l = append(l, c == '1')
	}
	return l
}

func TestRight(t *testing.T) { // P11.1
	for kind := -5; kind <= 10; kind++ {
		for m := -3; m <= most+4; m++ {
			for k := -3; k <= most+4; k++ {
				want := (kind == 1 || kind == 2) && 1 <= m && m <= k && k <= 64
				if Right(kind, m, k) != want {
					t.Errorf("Right(%d, %d, %d): %v", kind, m, k, !want)
				}
			}
		}
	}
}

func TestRightOfWrongNumbers(t *testing.T) { // P11.1
	far := []int{math.MinInt, math.MinInt + 1, -1 << 32, -65, -64, -2, -1, 0, 65, 66, 128, 256, 1 << 32, 1<<32 + 1, last, math.MaxInt - 1, math.MaxInt}
	for _, n := range far {
		for _, other := range append([]int{1, 2, 63, 64}, far...) {
			for _, kind := range kinds {
				if Right(kind, n, other) || Right(kind, other, n) {
					t.Errorf("(%d,%d), or turned round, is right of kind %d", n, other, kind)
				}
			}
		}
	}
	for _, kind := range []int{math.MinInt, -2, -1, 0, 3, 4, 255, 257, 258, 1<<32 + 1, 1<<32 + 2, math.MaxInt} {
		each(func(_, m, k int) {
			if Right(kind, m, k) {
				t.Errorf("(%d,%d) is right of kind %d", m, k, kind)
			}
		})
	}
	for _, kind := range kinds {
		for _, x := range [][2]int{{0, 0}, {0, 1}, {0, 64}, {2, 1}, {64, 63}, {1, 65}, {64, 65}, {65, 65}, {65, 64}, {-1, -1}, {-2, -1}, {-1, 64}} {
			if Right(kind, x[0], x[1]) {
				t.Errorf("(%d,%d) is right of kind %d", x[0], x[1], kind)
			}
		}
	}
}

func TestTheExamples(t *testing.T) { // P11.1
	for _, x := range []struct {
		kind, m, k int
		row        string
	}{
		{api.Even, 2, 3, "110"},
		{api.Deep, 2, 4, "1100"},
		{api.Even, 2, 4, "1010"},
		{api.Even, 1, 2, "10"},
		{api.Even, 3, 7, "1010100"},
		{api.Deep, 3, 7, "1110000"},
		{api.Even, 5, 7, "1110110"},
		{api.Even, 4, 5, "11110"},
		{api.Deep, 4, 5, "11110"},
	} {
		want := yes(x.row)
		if l := Row(x.kind, x.m, x.k); !slices.Equal(l, want) {
			t.Errorf("Row(%d, %d, %d): %v; want %v", x.kind, x.m, x.k, l, want)
		}
		for n := range 5 * x.k {
			if Must(x.kind, n, x.m, x.k) != want[n%x.k] {
				t.Errorf("Must(%d, %d, %d, %d): %v", x.kind, n, x.m, x.k, !want[n%x.k])
			}
		}
	}
}

func TestAllPatternsJobByJob(t *testing.T) { // P11.1
	each(func(kind, m, k int) {
		count := 0
		for n, must := range walked(kind, m, k, 4*k+3) {
			if c := Count(kind, n, m, k); c != count {
				t.Fatalf("Count(%d, %d, %d, %d): %d; want %d", kind, n, m, k, c, count)
			}
			if Must(kind, n, m, k) != must {
				t.Fatalf("Must(%d, %d, %d, %d): %v", kind, n, m, k, !must)
			}
			if must {
				count++
			}
		}
	})
}

func TestEdges(t *testing.T) { // P11.1
	each(func(kind, m, k int) {
		for _, n := range []int{0, 1, m - 1, m, m + 1, k - 1, k, k + 1, 2*k - 1, 2 * k, 2*k + 1,
			1<<31 - 1, 1 << 31, 1<<32 - 1, 1 << 32, last / 2, last - k, last - 2, last - 1, last} {
			hold(t, kind, n, m, k)
		}
	})
}

func TestEdgesWrittenOut(t *testing.T) { // P11.1
	for _, x := range []struct {
		kind, n, m, k, count int
		must                 bool
	}{
		{api.Even, 0, 1, 1, 0, true},
		{api.Deep, 0, 1, 1, 0, true},
		{api.Even, last - 1, 1, 1, last - 1, true},
		{api.Deep, last, 1, 1, last, true},
		{api.Even, last, 1, 1, last, true},
		{api.Even, 0, 1, 64, 0, true},
		{api.Even, 1, 1, 64, 1, false},
		{api.Even, 63, 1, 64, 1, false},
		{api.Even, 64, 1, 64, 1, true},
		{api.Even, 65, 1, 64, 2, false},
		{api.Deep, 63, 1, 64, 1, false},
		{api.Deep, 64, 1, 64, 1, true},
		{api.Deep, 65, 1, 64, 2, false},
		{api.Even, last - 1, 1, 64, last / 64, false},
		{api.Even, last, 1, 64, last / 64, true},
		{api.Deep, last - 1, 1, 64, last / 64, false},
		{api.Deep, last, 1, 64, last / 64, true},
		{api.Even, 63, 64, 64, 63, true},
		{api.Even, 64, 64, 64, 64, true},
		{api.Deep, last - 1, 64, 64, last - 1, true},
		{api.Even, last, 64, 64, last, true},
		{api.Even, 62, 63, 64, 62, true},
		{api.Even, 63, 63, 64, 63, false},
		{api.Even, 64, 63, 64, 63, true},
		{api.Deep, 63, 63, 64, 63, false},
		{api.Even, last - 1, 63, 64, last / 64 * 63, false},
		{api.Even, last, 63, 64, last / 64 * 63, true},
		{api.Deep, last - 1, 63, 64, last / 64 * 63, false},
		{api.Deep, last, 63, 64, last / 64 * 63, true},
		// 2^40 is 1 more than a multiple of 3.
		{api.Even, last, 2, 3, (last-1)/3*2 + 1, true},
		{api.Deep, last, 1, 3, (last-1)/3 + 1, false},
	} {
		if c := Count(x.kind, x.n, x.m, x.k); c != x.count {
			t.Errorf("Count of %+v: %d", x, c)
		}
		if Must(x.kind, x.n, x.m, x.k) != x.must {
			t.Errorf("Must of %+v: %v", x, !x.must)
		}
	}
}

func TestManyNumbers(t *testing.T) { // P11.1
	r := rand.New(rand.NewSource(11))
	for range 200000 {
		k := 1 + r.Intn(most)
		m := 1 + r.Intn(k)
		n := r.Intn(last>>r.Intn(41) + 1)
		hold(t, kinds[r.Intn(2)], n, m, k)
	}
}

func TestRow(t *testing.T) { // P11.1
	each(func(kind, m, k int) {
		l := Row(kind, m, k)
		if !slices.Equal(l, walked(kind, m, k, k)) {
			t.Fatalf("Row(%d, %d, %d): %v", kind, m, k, l)
		}
		for n, must := range l {
			if Must(kind, n, m, k) != must || Must(kind, last/k*k-k+n, m, k) != must {
				t.Fatalf("Row(%d, %d, %d): place %d isn't as Must says", kind, m, k, n)
			}
		}
	})
}

func TestOneMoreWhereItMustBe(t *testing.T) { // P11.1
	each(func(kind, m, k int) {
		for _, from := range []int{0, 1000003, last - 2*k} {
			for n := from; n < from+2*k; n++ {
				more := Count(kind, n+1, m, k) - Count(kind, n, m, k)
				if must := Must(kind, n, m, k); must && more != 1 || !must && more != 0 {
					t.Fatalf("kind %d, (%d,%d): job %d must be: %v; but %d more", kind, m, k, n, must, more)
				}
			}
		}
	})
}

func TestAnyKJobs(t *testing.T) { // P11.2
	each(func(kind, m, k int) {
		for _, first := range []int{0, 12345, last - 3*k} {
			in := 0
			for n := first; n <= first+3*k; n++ {
				// The last k jobs are those from n - k on, up to (not with) n.
				if n >= first+k && in != m {
					t.Fatalf("kind %d, (%d,%d): of the %d jobs from %d on %d must be", kind, m, k, k, n-k, in)
				}
				if Must(kind, n, m, k) {
					in++
				}
				if n >= first+k && Must(kind, n-k, m, k) {
					in--
				}
			}
		}
	})
}

func TestCountOfAnyKJobs(t *testing.T) { // P11.2
	r := rand.New(rand.NewSource(112))
	each(func(kind, m, k int) {
		for _, n := range []int{0, 1, k - 1, k, last - k, r.Intn(last - k), r.Intn(1000)} {
			if c := Count(kind, n+k, m, k) - Count(kind, n, m, k); c != m {
				t.Fatalf("kind %d, (%d,%d): of the %d jobs from %d on %d must be", kind, m, k, k, n, c)
			}
		}
	})
}

func TestHardOnesAllMustBe(t *testing.T) { // P11.2
	for _, kind := range kinds {
		for k := 1; k <= most; k++ {
			if l := Row(kind, k, k); len(l) != k || slices.Contains(l, false) {
				t.Errorf("Row(%d, %d, %d): %v", kind, k, k, l)
			}
			for _, n := range []int{0, 1, k - 1, k, k + 1, 99999, last - 1, last} {
				if !Must(kind, n, k, k) || Count(kind, n, k, k) != n {
					t.Errorf("kind %d, (%d,%d): job %d: %v, %d ahead of it", kind, k, k, n, Must(kind, n, k, k), Count(kind, n, k, k))
				}
			}
		}
	}
}

func TestRowsAreNewMemory(t *testing.T) { // P11.3
	each(func(kind, m, k int) {
		want := walked(kind, m, k, k)
		before, changed := Row(kind, m, k), Row(kind, m, k)
		for i := range changed {
			changed[i] = !changed[i]
		}
		whole := changed[:cap(changed)]
		for i := range whole {
			whole[i] = !want[i%k]
		}
		if !slices.Equal(before, want) {
			t.Fatalf("Row(%d, %d, %d): the one that was answered ahead changed: %v", kind, m, k, before)
		}
		if later := Row(kind, m, k); !slices.Equal(later, want) {
			t.Fatalf("Row(%d, %d, %d): later %v; want %v", kind, m, k, later, want)
		}
		for n := range 2 * k {
			if Must(kind, n, m, k) != want[n%k] {
				t.Fatalf("Must(%d, %d, %d, %d): %v behind a change of a row", kind, n, m, k, !want[n%k])
			}
		}
	})
}

func TestAllRowsStandApart(t *testing.T) { // P11.3: nor does a row of one pattern touch those of others
	var rows, wants [][]bool
	each(func(kind, m, k int) {
		rows = append(rows, Row(kind, m, k))
		wants = append(wants, walked(kind, m, k, k))
	})
	for i, l := range rows {
		if !slices.Equal(l, wants[i]) {
			t.Fatalf("row %d: %v; want %v", i, l, wants[i])
		}
		clear(l)
		_ = append(l, true)
	}
	i := 0
	each(func(kind, m, k int) {
		if l := Row(kind, m, k); !slices.Equal(l, wants[i]) {
			t.Fatalf("Row(%d, %d, %d): %v; want %v", kind, m, k, l, wants[i])
		}
		i++
	})
}

func TestAnswersHangOnArgumentsAlone(t *testing.T) { // P11.1: whatever was asked ahead
	r := rand.New(rand.NewSource(1))
	for range 50000 {
		k := 1 + r.Intn(most)
		m, kind := 1+r.Intn(k), kinds[r.Intn(2)]
		switch r.Intn(4) {
		case 0:
			hold(t, kind, r.Intn(last+1), m, k)
		case 1:
			// Those that aren't right leave nothing behind.
			Row(r.Intn(5)-1, m+k, k)
		default:
			if l := Row(kind, m, k); !slices.Equal(l, walked(kind, m, k, k)) {
				t.Fatalf("Row(%d, %d, %d): %v", kind, m, k, l)
			}
		}
	}
}

func TestAllAtOnce(t *testing.T) { // P1, P11.3
	var all sync.WaitGroup
	for range 8 {
		all.Go(func() {
			each(func(kind, m, k int) {
				l := Row(kind, m, k)
				if !slices.Equal(l, walked(kind, m, k, k)) {
					t.Errorf("Row(%d, %d, %d): %v", kind, m, k, l)
				}
				clear(l)
			})
		})
	}
	all.Wait()
}

func TestNothingPanics(t *testing.T) { // P1; and what isn't right is answered with nothing
	numbers := []int{math.MinInt, -last, -65, -1, 0, 1, 2, 3, 63, 64, 65, last, last + 1, 1 << 62, math.MaxInt}
	for _, kind := range []int{math.MinInt, -1, 0, 1, 2, 3, math.MaxInt} {
		for _, m := range numbers {
			for _, k := range numbers {
				right := Right(kind, m, k)
				if l := Row(kind, m, k); (len(l) > 0) != right {
					t.Errorf("Row(%d, %d, %d): %v", kind, m, k, l)
				}
				for _, n := range numbers {
					c, must := Count(kind, n, m, k), Must(kind, n, m, k)
					if (!right || n < 0 || n > last) && (c != 0 || must) {
						t.Errorf("kind %d, n %d, (%d,%d): %d, %v; want 0, false", kind, n, m, k, c, must)
					}
				}
			}
		}
	}
}
