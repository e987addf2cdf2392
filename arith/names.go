package arith

import (
	"cmp"
)

// Names of balls that are atoms.
const (
	unbound    = "unbound"
	negative   = "negative"
	zeroDivide = "zero_divide"
	overflow   = "overflow"
)

// A Deed is what a name does with two numbers, or with the first of them alone:
// it answers what comes out, or else the name of the ball.
type Deed func(a, b int64) (n int64, refusal string)

// Find gives what a name does with so many numbers, nil if it does nothing.
func Find(name string, args int) Deed {
	switch args {
	case 1:
		return withOne(name)
	case 2:
		return withTwo(name)
	}
	return nil
}

func withOne(name string) Deed {
	switch name {
	case "-":
		return func(a, _ int64) (int64, string) { return difference(0, a) }
	case "+":
		return always(func(a, _ int64) int64 { return a })
	case "abs":
		return func(a, _ int64) (int64, string) { return signed(magnitude(a)) }
	case "sign":
		return always(func(a, _ int64) int64 { return int64(cmp.Compare(a, 0)) })
	case "\\":
		return always(func(a, _ int64) int64 { return ^a })
	}
	return nil
}

func withTwo(name string) Deed {
	switch name {
	case "+":
		return sum
	case "-":
		return difference
	case "*":
		return product
	case "//":
		return unlessZero(quotient)
	case "rem":
		return unlessZero(always(func(a, b int64) int64 { return a % b }))
	case "div":
		return unlessZero(floor)
	case "mod":
		return unlessZero(always(aboveFloor))
	case "min":
		return always(func(a, b int64) int64 { return min(a, b) })
	case "max":
		return always(func(a, b int64) int64 { return max(a, b) })
	case "gcd":
		return commonDivisor
	case "**", "^":
		return unlessNegative(power)
	case "<<":
		return unlessNegative(shiftLeft)
	case ">>":
		return unlessNegative(always(func(a, b int64) int64 { return a >> b }))
	case "/\\":
		return always(func(a, b int64) int64 { return a & b })
	case "\\/":
		return always(func(a, b int64) int64 { return a | b })
	case "xor":
		return always(func(a, b int64) int64 { return a ^ b })
	}
	return nil
}

// relation gives what a name asks of two numbers, nil if it asks nothing.
func relation(name string) func(a, b int64) bool {
	switch name {
	case "=:=":
		return func(a, b int64) bool { return a == b }
	case "=\\=":
		return func(a, b int64) bool { return a != b }
	case "<":
		return func(a, b int64) bool { return a < b }
	case ">":
		return func(a, b int64) bool { return a > b }
	case "=<":
		return func(a, b int64) bool { return a <= b }
	case ">=":
		return func(a, b int64) bool { return a >= b }
	}
	return nil
}

// always is the Deed of what comes to a number whatever the numbers are.
func always(do func(a, b int64) int64) Deed {
	return func(a, b int64) (int64, string) {
		return do(a, b), ""
	}
}

func unlessZero(do Deed) Deed {
	return func(a, b int64) (int64, string) {
		if b == 0 {
			return 0, zeroDivide
		}
		return do(a, b)
	}
}

func unlessNegative(do Deed) Deed {
	return func(a, b int64) (int64, string) {
		if b < 0 {
			return 0, negative
		}
		return do(a, b)
	}
}
