package tick

import (
	"math"
	"math/big"
	"slices"
	"testing"
)

const top = 1 << 62

type pair struct {
	a, b int
	want int
	ok   bool
}

func checkPairs(t *testing.T, name string, f func(a, b int) (int, bool), l []pair) {
	t.Helper()
	for _, x := range l {
		if n, ok := f(x.a, x.b); n != x.want || ok != x.ok {
			t.Errorf("%s(%d, %d): %d, %v; want %d, %v", name, x.a, x.b, n, ok, x.want, x.ok)
		}
	}
}

// edges are numbers at, and beside, all bounds that a call could get wrong; some are no times.
func edges() []int {
	l := []int{math.MinInt, math.MinInt + 1, -top - 1, -top, -top + 1, math.MaxInt - 1, math.MaxInt}
	for n := -3; n <= 12; n++ {
		l = append(l, n, top+n, top/2+n, top/3+n, top/7+n, 1<<31+n, 1<<32+n, 3037000499+n)
	}
	slices.Sort(l)
	return slices.Compact(l)
}

// told is what is asked of a call whose result is n in whole numbers without bounds.
func told(n *big.Int, numbers ...int) (int, bool) {
	for _, x := range numbers {
		if x < 0 || x > top {
			return 0, false
		}
	}
	if n.Sign() < 0 || n.Cmp(big.NewInt(top)) > 0 {
		return 0, false
	}
	return int(n.Int64()), true
}

func TestAdd(t *testing.T) { // P1.1
	checkPairs(t, "Add", Add, []pair{
		{0, 0, 0, true}, {2, 3, 5, true}, {40, 2, 42, true},
		{top, 0, top, true}, {0, top, top, true}, {top - 1, 1, top, true}, {top / 2, top / 2, top, true},
		{top, 1, 0, false}, {1, top, 0, false}, {top/2 + 1, top / 2, 0, false}, {top, top, 0, false},
		{-1, 3, 0, false}, {3, -1, 0, false}, {-1, -1, 0, false},
		{top + 1, 0, 0, false}, {0, top + 1, 0, false}, {top + 1, -1, 0, false}, {-1, top + 1, 0, false},
		{math.MaxInt, math.MaxInt, 0, false}, {math.MinInt, math.MinInt, 0, false}, {math.MinInt, math.MaxInt, 0, false},
	})
}

func TestMul(t *testing.T) { // P1.1
	checkPairs(t, "Mul", Mul, []pair{
		{0, 0, 0, true}, {6, 7, 42, true}, {1, 9, 9, true},
		{top, 0, 0, true}, {0, top, 0, true}, {top, 1, top, true}, {1, top, top, true}, {1 << 31, 1 << 31, top, true}, {3, top / 3, top - 1, true},
		{top, 2, 0, false}, {2, top/2 + 1, 0, false}, {3, top/3 + 1, 0, false}, {1 << 31, 1<<31 + 1, 0, false},
		{1 << 32, 1 << 32, 0, false}, {top, 4, 0, false}, {top, top, 0, false},
		{0, -5, 0, false}, {-5, 0, 0, false}, {-2, -3, 0, false}, {2, -3, 0, false},
		{0, top + 1, 0, false}, {top + 1, 0, 0, false}, {1, top + 1, 0, false}, {math.MinInt, -1, 0, false}, {-1, math.MinInt, 0, false},
	})
}

func TestCeil(t *testing.T) { // P1.1
	checkPairs(t, "Ceil", Ceil, []pair{
		{7, 2, 4, true}, {8, 2, 4, true}, {9, 2, 5, true}, {10, 5, 2, true}, {11, 5, 3, true}, {1, 5, 1, true},
		{0, 1, 0, true}, {0, 5, 0, true}, {0, top, 0, true}, {1, top, 1, true},
		{top, 1, top, true}, {top, top, 1, true}, {top - 1, top, 1, true}, {top, top - 1, 2, true}, {top, 2, top / 2, true}, {top, 3, top/3 + 1, true},
		{3, 0, 0, false}, {0, 0, 0, false}, {top, 0, 0, false}, {-1, 0, 0, false},
		{-1, 3, 0, false}, {3, -1, 0, false}, {-6, -3, 0, false},
		{top + 1, 1, 0, false}, {1, top + 1, 0, false}, {0, -1, 0, false}, {math.MinInt, -1, 0, false},
	})
}

func TestSum(t *testing.T) { // P1.1
	for _, x := range []struct {
		l    []int
		want int
		ok   bool
	}{
		{nil, 0, true}, {[]int{}, 0, true}, {[]int{0}, 0, true}, {[]int{1, 2, 3}, 6, true},
		{[]int{top}, top, true}, {[]int{top, 0, 0}, top, true}, {[]int{top / 2, top / 2}, top, true}, {[]int{1, top - 2, 1}, top, true},
		{[]int{top, 1}, 0, false}, {[]int{top, 0, 1}, 0, false}, {[]int{top / 2, top / 2, 1}, 0, false},
		{[]int{top, 1, -1}, 0, false}, {[]int{top, top, top, top}, 0, false},
		{[]int{-1}, 0, false}, {[]int{-1, 2}, 0, false}, {[]int{2, -1}, 0, false}, {[]int{1, -1, 5}, 0, false},
		{[]int{top + 1}, 0, false}, {[]int{0, top + 1, 0}, 0, false}, {[]int{math.MaxInt, math.MinInt}, 0, false},
	} {
		given := slices.Clone(x.l)
		if n, ok := Sum(x.l); n != x.want || ok != x.ok {
			t.Errorf("Sum(%v): %d, %v; want %d, %v", x.l, n, ok, x.want, x.ok)
		}
		if !slices.Equal(given, x.l) {
			t.Errorf("Sum(%v) changed it to %v", given, x.l)
		}
	}
}

func TestLcm(t *testing.T) { // P1.2
	for _, x := range []struct {
		a, b, most int
		want       int
		ok         bool
	}{
		{4, 6, 100, 12, true}, {6, 4, 100, 12, true}, {7, 7, 7, 7, true}, {1, 9, 100, 9, true}, {1, 1, 1, 1, true}, {5, 7, 35, 35, true}, {12, 18, 36, 36, true}, {3, 12, 12, 12, true},
		{4, 6, 12, 12, true}, {4, 6, 11, 0, false}, {7, 7, 6, 0, false}, {1, 1, 0, 0, false}, {1, 1, -1, 0, false}, {4, 6, math.MinInt, 0, false},
		{top, 2, top, top, true}, {top, top, top, top, true}, {1, top, top, top, true}, {top, 2, top - 1, 0, false}, {3, top / 4 * 3, top, top / 4 * 3, true},
		{1 << 31, 3 << 30, top, 3 << 31, true}, {4, 6, math.MaxInt, 12, true},
		{top, 3, top, 0, false}, {top, 3, math.MaxInt, 0, false}, {1<<31 + 1, 1 << 31, math.MaxInt, 0, false}, {top, top - 1, math.MaxInt, 0, false},
		{0, 3, 9, 0, false}, {3, 0, 9, 0, false}, {0, 0, 9, 0, false}, {0, 0, 0, 0, false},
		{-4, 6, 100, 0, false}, {4, -6, 100, 0, false}, {-4, -6, 100, 0, false}, {math.MinInt, -1, math.MaxInt, 0, false},
		{top + 1, 1, math.MaxInt, 0, false}, {1, top + 1, math.MaxInt, 0, false}, {math.MaxInt, math.MaxInt, math.MaxInt, 0, false},
	} {
		if n, ok := Lcm(x.a, x.b, x.most); n != x.want || ok != x.ok {
			t.Errorf("Lcm(%d, %d, %d): %d, %v; want %d, %v", x.a, x.b, x.most, n, ok, x.want, x.ok)
		}
	}
}

func TestLcmIsTheLeast(t *testing.T) { // P1.2
	for a := 1; a <= 40; a++ {
		for b := 1; b <= 40; b++ {
			want := a
			for want%b != 0 {
				want += a
			}
			if n, ok := Lcm(a, b, want); n != want || !ok {
				t.Errorf("Lcm(%d, %d) at %d: %d, %v", a, b, want, n, ok)
			}
			if n, ok := Lcm(a, b, want-1); n != 0 || ok {
				t.Errorf("Lcm(%d, %d) below %d: %d, %v", a, b, want, n, ok)
			}
		}
	}
}

func TestAgainstWholeNumbers(t *testing.T) { // P1 and P1.1, at all pairs of edges
	for _, a := range edges() {
		for _, b := range edges() {
			x, y := big.NewInt(int64(a)), big.NewInt(int64(b))
			sum, sumOk := told(new(big.Int).Add(x, y), a, b)
			checkPairs(t, "Add", Add, []pair{{a, b, sum, sumOk}})
			list, listOk := Sum([]int{a, b})
			if list != sum || listOk != sumOk {
				t.Errorf("Sum(%d, %d): %d, %v; want %d, %v", a, b, list, listOk, sum, sumOk)
			}
			product, productOk := told(new(big.Int).Mul(x, y), a, b)
			checkPairs(t, "Mul", Mul, []pair{{a, b, product, productOk}})
		}
	}
}

func TestLcmAgainstWholeNumbers(t *testing.T) { // P1 and P1.2, at all pairs of edges
	for _, a := range edges() {
		for _, b := range edges() {
			want, wantOk := 0, false
			if a > 0 && b > 0 {
				x, y := big.NewInt(int64(a)), big.NewInt(int64(b))
				common := new(big.Int).GCD(nil, nil, x, y)
				want, wantOk = told(common.Mul(common.Div(x, common), y), a, b)
			}
			for _, most := range []int{want, top, math.MaxInt} {
				if n, ok := Lcm(a, b, most); n != want || ok != wantOk {
					t.Errorf("Lcm(%d, %d, %d): %d, %v; want %d, %v", a, b, most, n, ok, want, wantOk)
				}
			}
			if n, ok := Lcm(a, b, want-1); n != 0 || ok {
				t.Errorf("Lcm(%d, %d, %d): %d, %v; want 0, false", a, b, want-1, n, ok)
			}
		}
	}
}

func TestCeilTimesB(t *testing.T) { // P1.3: it is a, or less than b more
	for _, a := range edges() {
		for _, b := range edges() {
			n, ok := Ceil(a, b)
			if a < 0 || a > top || b < 1 || b > top {
				if n != 0 || ok {
					t.Errorf("Ceil(%d, %d): %d, %v; want 0, false", a, b, n, ok)
				}
				continue
			}
			more := new(big.Int).Mul(big.NewInt(int64(n)), big.NewInt(int64(b)))
			more.Sub(more, big.NewInt(int64(a)))
			if !ok || more.Sign() < 0 || more.Cmp(big.NewInt(int64(b))) >= 0 {
				t.Errorf("Ceil(%d, %d): %d, %v, which is %v more", a, b, n, ok, more)
			}
		}
	}
}

func TestOrderOfTwo(t *testing.T) { // P1.3
	for _, a := range edges() {
		for _, b := range edges() {
			for i, f := range []func(a, b int) (int, bool){Add, Mul} {
				n, ok := f(a, b)
				checkPairs(t, []string{"Add", "Mul"}[i], f, []pair{{b, a, n, ok}})
			}
		}
	}
}

func TestOrderOfThree(t *testing.T) { // P1.3
	l := []int{-1, 0, 1, 2, 3, 1 << 20, 1 << 31, top/3 + 1, top / 2, top - 1, top, top + 1}
	for _, a := range l {
		for _, b := range l {
			for _, c := range l {
				n, ok := Sum([]int{a, b, c})
				for _, other := range [][]int{{a, c, b}, {b, a, c}, {b, c, a}, {c, a, b}, {c, b, a}} {
					if m, same := Sum(other); m != n || same != ok {
						t.Errorf("Sum(%v): %d, %v; of another order %d, %v", other, m, same, n, ok)
					}
				}
			}
		}
	}
}

func TestOrderOfProducts(t *testing.T) { // P1.3, of times above 0: where one order is over, so is the other
	l := []int{1, 2, 3, 7, 1 << 20, 1 << 21, 1<<31 - 1, 1 << 31, 1<<31 + 1, top / 3, top / 2, top}
	three := func(a, b, c int) (int, bool) {
		n, ok := Mul(a, b)
		if !ok {
			return 0, false
		}
		return Mul(n, c)
	}
	for _, a := range l {
		for _, b := range l {
			for _, c := range l {
				n, ok := three(a, b, c)
				m, same := three(b, c, a)
				if m != n || same != ok {
					t.Errorf("%d, %d, %d: %d, %v; of another order %d, %v", a, b, c, n, ok, m, same)
				}
			}
		}
	}
}
