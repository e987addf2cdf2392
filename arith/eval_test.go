package arith_test

import (
	"math/big"
	"testing"

	"hornbook/api"
	"hornbook/arith"
)

func TestEval(t *testing.T) {
	for _, l := range []struct {
		s    string
		want int64
	}{
		{"5", 5}, {"-5", -5}, {"0", 0}, {"9223372036854775807", greatest}, {"-9223372036854775808", least},
		{"2 + 3", 5}, {"2 - 3", -1}, {"-2 * 3", -6}, {"- (7)", -7}, {"+(7)", 7}, {"+(-7)", -7}, {"- - - 7", -7},
		{"7 // 2", 3}, {"-7 // 2", -3}, {"7 // -2", -3}, {"-7 // -2", 3}, {"6 // 3", 2},
		{"7 rem 2", 1}, {"-7 rem 2", -1}, {"7 rem -2", 1}, {"-7 rem -2", -1}, {"6 rem -3", 0},
		{"7 div 2", 3}, {"-7 div 2", -4}, {"7 div -2", -4}, {"-7 div -2", 3}, {"-6 div 3", -2}, {"6 div -3", -2},
		{"7 mod 2", 1}, {"-7 mod 2", 1}, {"7 mod -2", -1}, {"-7 mod -2", -1}, {"-6 mod 3", 0}, {"6 mod -3", 0},
		{"1 div 9223372036854775807", 0}, {"-1 div 9223372036854775807", -1}, {"1 mod -9223372036854775808", -9223372036854775807}, {"-1 mod 9223372036854775807", 9223372036854775806},
		{"min(3,-4)", -4}, {"min(-4,3)", -4}, {"max(3,-4)", 3}, {"max(-4,3)", 3}, {"min(2,2)", 2}, {"max(2,2)", 2},
		{"abs(-4)", 4}, {"abs(4)", 4}, {"abs(0)", 0}, {"sign(-9)", -1}, {"sign(0)", 0}, {"sign(9)", 1}, {"sign(-9223372036854775808)", -1},
		{"gcd(12,18)", 6}, {"gcd(-12,18)", 6}, {"gcd(12,-18)", 6}, {"gcd(-12,-18)", 6}, {"gcd(0,-5)", 5}, {"gcd(5,0)", 5}, {"gcd(0,0)", 0}, {"gcd(7,9)", 1}, {"gcd(-9223372036854775808,6)", 2}, {"gcd(9223372036854775807,-9223372036854775808)", 1},
		{"2 ** 10", 1024}, {"2 ^ 10", 1024}, {"-3 ** 3", -27}, {"-3 ^ 4", 81}, {"0 ^ 0", 1}, {"0 ** 0", 1}, {"0 ^ 7", 0}, {"5 ^ 0", 1}, {"-5 ^ 0", 1}, {"5 ^ 1", 5}, {"-9223372036854775808 ^ 1", least}, {"-9223372036854775808 ** 0", 1},
		{"1 ^ 9223372036854775807", 1}, {"-1 ^ 9223372036854775807", -1}, {"-1 ** 9223372036854775806", 1}, {"0 ^ 9223372036854775807", 0}, {"0 ** 9223372036854775806", 0}, {"2 ^ 62", 1 << 62}, {"-2 ^ 63", least}, {"3 ^ 39", 4052555153018976267}, {"-8 ^ 21", least},
		{"1 << 62", 1 << 62}, {"-1 << 63", least}, {"-3 << 2", -12}, {"5 << 0", 5}, {"0 << 63", 0}, {"0 << 64", 0}, {"0 << 9223372036854775807", 0}, {"-9223372036854775808 << 0", least}, {"-2 << 62", least},
		{"5 >> 1", 2}, {"-5 >> 1", -3}, {"-5 >> 0", -5}, {"-1 >> 63", -1}, {"5 >> 63", 0}, {"5 >> 64", 0}, {"-5 >> 64", -1}, {"5 >> 9223372036854775807", 0}, {"-9223372036854775808 >> 9223372036854775807", -1}, {"-9223372036854775808 >> 63", -1}, {"-9223372036854775808 >> 62", -2},
		{"12 /\\ 10", 8}, {"12 \\/ 10", 14}, {"12 xor 10", 6}, {"-1 /\\ 7", 7}, {"-8 \\/ 1", -7}, {"-1 xor 5", -6}, {"\\ 5", -6}, {"\\ -1", 0}, {"\\ 9223372036854775807", least}, {"\\ -9223372036854775808", greatest},
		{"9223372036854775806 + 1", greatest}, {"-9223372036854775807 - 1", least}, {"-9223372036854775808 + 9223372036854775807", -1}, {"- (9223372036854775807)", -greatest}, {"-1 - -9223372036854775808", greatest}, {"4611686018427387904 * -2", least}, {"-9223372036854775808 * 1", least}, {"-9223372036854775808 * 0", 0},
		{"-9223372036854775808 rem -1", 0}, {"-9223372036854775808 mod -1", 0}, {"-9223372036854775808 // 1", least}, {"-9223372036854775808 div 1", least}, {"9223372036854775807 // -1", -greatest}, {"9223372036854775807 div -1", -greatest}, {"-9223372036854775808 // -9223372036854775808", 1},
		{"(1 + 2) * (3 - -4) - 2 ** 3 // 3", 19}, {"abs(-3) + sign(-9) * min(2,max(1,7))", 1}, {"1 - 2 - 3", -4}, {"(7 // 2) * 2 + 7 rem 2", 7},
	} {
		comes(t, read(t, l.s), l.want)
	}
}

func TestEvalBalls(t *testing.T) {
	for _, l := range []struct {
		s    string
		ball api.Term
	}{
		{"X", a("unbound")}, {"a", none("a", 0)}, {"[]", none("[]", 0)}, {"- ", none("-", 0)}, {"''", none("", 0)}, {"[1]", none(".", 2)}, {"{1}", none("{}", 1)}, {"1,2", none(",", 2)}, {"4 / 2", none("/", 2)}, {"1 = 1", none("=", 2)}, {"1 < 2", none("<", 2)}, {"f(1,2,3)", none("f", 3)},
		{"f(X)", none("f", 1)}, {"f(1 // 0,a)", none("f", 2)}, {"mod(X)", none("mod", 1)}, {"+(X,a,1)", none("+", 3)},
		// From the left, and the inside first.
		{"X + a", a("unbound")}, {"a + X", none("a", 0)}, {"1 + X", a("unbound")}, {"X + 1 // 0", a("unbound")}, {"1 // 0 + X", a("zero_divide")}, {"(1 + X) * a", a("unbound")}, {"(1 + a) * X", none("a", 0)}, {"f(X) + Y", none("f", 1)}, {"2 ^ -1 + a", a("negative")}, {"a - 2 ^ -1", none("a", 0)}, {"9223372036854775807 + 1 - 1", a("overflow")}, {"1 // 0 - 2 ^ -1", a("zero_divide")}, {"2 ^ -1 - 1 // 0", a("negative")},
		{"X // 0", a("unbound")}, {"a // 0", none("a", 0)}, {"1 // (0 * X)", a("unbound")}, {"X ^ -1", a("unbound")}, {"2 ^ (-1 + a)", none("a", 0)}, {"X << -1", a("unbound")}, {"- a", none("a", 0)}, {"abs(X)", a("unbound")}, {"min(X,1)", a("unbound")}, {"0 * a", none("a", 0)},
		{"1 // 0", a("zero_divide")}, {"0 // 0", a("zero_divide")}, {"1 rem 0", a("zero_divide")}, {"1 div 0", a("zero_divide")}, {"1 mod 0", a("zero_divide")}, {"-9223372036854775808 // 0", a("zero_divide")}, {"0 mod 0", a("zero_divide")},
		{"2 ^ -1", a("negative")}, {"2 ** -1", a("negative")}, {"0 ^ -1", a("negative")}, {"1 ** -9223372036854775808", a("negative")}, {"-1 ^ -1", a("negative")}, {"1 << -1", a("negative")}, {"1 >> -1", a("negative")}, {"0 << -1", a("negative")}, {"0 >> -9223372036854775808", a("negative")},
		{"9223372036854775807 + 1", a("overflow")}, {"-9223372036854775808 + -1", a("overflow")}, {"-9223372036854775808 - 1", a("overflow")}, {"0 - -9223372036854775808", a("overflow")}, {"- (-9223372036854775808)", a("overflow")}, {"- - (-9223372036854775808)", a("overflow")}, {"-9223372036854775808 * -1", a("overflow")}, {"-1 * -9223372036854775808", a("overflow")}, {"4611686018427387904 * 2", a("overflow")}, {"3037000500 * 3037000500", a("overflow")}, {"-9223372036854775808 * -9223372036854775808", a("overflow")}, {"4294967296 * 4294967296", a("overflow")},
		{"-9223372036854775808 // -1", a("overflow")}, {"-9223372036854775808 div -1", a("overflow")}, {"abs(-9223372036854775808)", a("overflow")}, {"gcd(-9223372036854775808,0)", a("overflow")}, {"gcd(0,-9223372036854775808)", a("overflow")}, {"gcd(-9223372036854775808,-9223372036854775808)", a("overflow")},
		{"2 ^ 63", a("overflow")}, {"-2 ^ 64", a("overflow")}, {"2 ** 64", a("overflow")}, {"2 ^ 9223372036854775807", a("overflow")}, {"-2 ^ 9223372036854775807", a("overflow")}, {"3 ^ 40", a("overflow")}, {"-9223372036854775808 ^ 2", a("overflow")}, {"16 ^ 16", a("overflow")},
		{"1 << 63", a("overflow")}, {"1 << 64", a("overflow")}, {"-1 << 64", a("overflow")}, {"2 << 62", a("overflow")}, {"-3 << 62", a("overflow")}, {"3 << 63", a("overflow")}, {"1 << 9223372036854775807", a("overflow")}, {"-1 << 9223372036854775807", a("overflow")}, {"-9223372036854775808 << 1", a("overflow")},
	} {
		throws(t, read(t, l.s), l.ball)
	}
}

// TestTable holds each line of the table, at its edges, against numbers of any size.
func TestTable(t *testing.T) {
	hold := func(name string, of ...int64) {
		var exact []*big.Int
		var args []api.Term
		for _, n := range of {
			exact = append(exact, big.NewInt(n))
			args = append(args, i(n))
		}
		if n, ball := table(name, exact...); ball != "" {
			throws(t, c(name, args...), a(ball))
		} else {
			comes(t, c(name, args...), n.Int64())
		}
	}
	list := numbers()
	for n := int64(-20); n <= 20; n++ {
		list = append(list, n)
	}
	for _, x := range list {
		for _, name := range unaryNames() {
			hold(name, x)
		}
		for _, y := range list {
			for _, name := range binaryNames() {
				hold(name, x, y)
			}
		}
	}
}

// TestRemainders: what is left is what the document says it is.
func TestRemainders(t *testing.T) {
	for _, x := range numbers() {
		for _, y := range numbers() {
			for _, l := range [][2]string{{"//", "rem"}, {"div", "mod"}} {
				q, _, err := arith.Eval(c(l[0], i(x), i(y)))
				left, _, err2 := arith.Eval(c(l[1], i(x), i(y)))
				if err == api.OK && (err2 != api.OK || left != x-y*q) {
					t.Errorf("%d %s %d is %d, %s is %d, %v", x, l[0], y, q, l[1], left, err2)
				}
			}
		}
	}
}

// TestNames: a name is in the table with so many Args, and no others.
func TestNames(t *testing.T) {
	all := append(append(append(otherNames(), unaryNames()...), binaryNames()...), relationNames()...)
	for _, name := range all {
		throws(t, a(name), none(name, 0))
		for args := 1; args <= api.MaxArity; args++ {
			list := make([]api.Term, args)
			for k := range list {
				list[k] = i(1)
			}
			_, ball, err := arith.Eval(c(name, list...))
			if isKnown(name, args) {
				if err != api.OK || !isZero(ball) {
					t.Errorf("%q with %d Args: %s, %v", name, args, show(ball), err)
				}
				continue
			}
			throws(t, c(name, list...), none(name, int64(args)))
		}
	}
}

func TestEvalAgainstNaive(t *testing.T) {
	x := chance(41)
	met := map[string]int{}
	for k := range 60000 {
		u := x.term(1+k%7, 4+k%60)
		want, ball := naive(u)
		if isZero(ball) {
			comes(t, u, want)
			ball.Name = "none"
		} else {
			throws(t, u, ball)
		}
		met[ball.Name]++
	}
	for _, name := range []string{"none", "unbound", "not_evaluable", "negative", "zero_divide", "overflow"} {
		if met[name] < 500 {
			t.Errorf("%s was met %d times only", name, met[name])
		}
	}
}

func TestEvalRefuses(t *testing.T) {
	for _, x := range nones() {
		if n, ball, err := arith.Eval(x); n != 0 || !isZero(ball) || err != api.ErrTerm {
			t.Errorf("%s: %d, %s, %v", show(x), n, show(ball), err)
		}
	}
}
