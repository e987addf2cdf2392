package arith

import (
	"math"
)

func sum(a, b int64) (int64, string) {
	n := a + b
	// It ran over just if both have one sign, and what came out has the other.
	if (a^n)&(b^n) < 0 {
		return 0, overflow
	}
	return n, ""
}

func difference(a, b int64) (int64, string) {
	n := a - b
	if (a^b)&(a^n) < 0 {
		return 0, overflow
	}
	return n, ""
}

func product(a, b int64) (int64, string) {
	if b == -1 {
		// Dividing by -1, as below, would hide that -2^63 ran over.
		return difference(0, a)
	}
	n := a * b
	if b != 0 && n/b != a {
		return 0, overflow
	}
	return n, ""
}

// quotient: only dividing by -1 can run over.
func quotient(a, b int64) (int64, string) {
	if b == -1 {
		return difference(0, a)
	}
	return a / b, ""
}

func floor(a, b int64) (int64, string) {
	n, refusal := quotient(a, b)
	if refusal == "" && aboveFloor(a, b) != a%b {
		n--
	}
	return n, refusal
}

// aboveFloor is a - b * floor, also where floor runs over.
func aboveFloor(a, b int64) int64 {
	n := a % b
	if n < 0 && b > 0 || n > 0 && b < 0 {
		n += b
	}
	return n
}

func power(a, b int64) (int64, string) {
	if -1 <= a && a <= 1 {
		// No product of these runs over, which would end the loop soon; but each second power is the same again.
		b = min(b, 2-b%2)
	}
	n, refusal := int64(1), ""
	for k := int64(0); k < b && refusal == ""; k++ {
		n, refusal = product(n, a)
	}
	return n, refusal
}

func shiftLeft(a, b int64) (int64, string) {
	n := a << b
	if n>>b != a {
		return 0, overflow
	}
	return n, ""
}

func commonDivisor(a, b int64) (int64, string) {
	x, y := magnitude(a), magnitude(b)
	for y != 0 {
		x, y = y, x%y
	}
	return signed(x)
}

// magnitude has no sign, so that there is room for that of -2^63.
func magnitude(a int64) uint64 {
	if a < 0 {
		return -uint64(a)
	}
	return uint64(a)
}

func signed(n uint64) (int64, string) {
	if n > math.MaxInt64 {
		return 0, overflow
	}
	return int64(n), ""
}
