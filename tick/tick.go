// Package tick is layer 1: numbers of ticks, that are checked. See shared/doc/01-tick.md.
package tick

// greatest is the greatest time; two of it wrap round in an int, so what is over is told ahead of reckoning.
const greatest = 1 << 62

// Add answers the sum of two times, and whether it is a time.
func Add(a, b int) (int, bool) {
	if !isTime(a) || !isTime(b) || a > greatest-b {
		return 0, false
	}
	return a + b, true
}

// Mul answers the product of two times, and whether it is a time.
func Mul(a, b int) (int, bool) {
	if !isTime(a) || !isTime(b) {
		return 0, false
	}
	// A product may wrap round to a number that looks like a time, so it isn't made before it is known to fit.
	if a > 0 && b > greatest/a {
		return 0, false
	}
	return a * b, true
}

// Ceil answers a by b, rounded up, and whether there is such a time.
func Ceil(a, b int) (int, bool) {
	if !isTime(a) || !isTime(b) || b == 0 {
		return 0, false
	}
	n := a / b
	if a%b > 0 {
		n++
	}
	return n, true
}

// Lcm answers the least common multiple, and whether it is a time that isn't above most.
func Lcm(a, b, most int) (int, bool) {
	if !isTime(a) || !isTime(b) || a == 0 || b == 0 {
		return 0, false
	}
	// Divided first, since a times b may be over where the multiple isn't.
	n, ok := Mul(a/divisor(a, b), b)
	if !ok || n > most {
		return 0, false
	}
	return n, true
}

// Sum answers the sum of all, and whether each beginning of it is a time.
func Sum(l []int) (int, bool) {
	sum := 0
	for _, n := range l {
		next, ok := Add(sum, n)
		if !ok {
			return 0, false
		}
		sum = next
	}
	return sum, true
}

func isTime(n int) bool { return n >= 0 && n <= greatest }

// divisor is the greatest common divisor of two times above 0.
func divisor(a, b int) int {
	for b > 0 {
		a, b = b, a%b
	}
	return a
}
