package arith_test

import (
	"cmp"
	"slices"
	"testing"

	"hornbook/api"
	"hornbook/arith"
)

// holds says whether two terms stand in a relation, or do not.
func holds(t *testing.T, name string, x, y api.Term, want bool) {
	t.Helper()
	is, ball, err := arith.Holds(name, x, y)
	if is != want || err != api.OK || !isZero(ball) {
		t.Errorf("%s %s %s: %v, %s, %v", show(x), name, show(y), is, show(ball), err)
	}
}

// refuses says whether there is an error, and which ball.
func refuses(t *testing.T, name string, x, y, want api.Term, code api.Errno) {
	t.Helper()
	is, ball, err := arith.Holds(name, x, y)
	if is || err != code || !same(ball, want) {
		t.Errorf("%s %q %s: %v, %s, %v, not %s, %v", show(x), name, show(y), is, show(ball), err, show(want), code)
	}
}

func TestHolds(t *testing.T) {
	// Whether each relation holds where the left number is below, the same as, above the right one.
	for name, want := range map[string][3]bool{
		"=:=": {false, true, false}, "=\\=": {true, false, true}, "<": {true, false, false}, ">": {false, false, true}, "=<": {true, true, false}, ">=": {false, true, true},
	} {
		for _, x := range numbers() {
			for _, y := range numbers() {
				holds(t, name, i(x), i(y), want[1+cmp.Compare(x, y)])
			}
		}
		holds(t, name, read(t, "2 * 3"), read(t, "10 - 4"), want[1])
		holds(t, name, read(t, "2 * 3"), read(t, "10 - 3"), want[0])
		holds(t, name, read(t, "- - 8"), read(t, "10 - 3"), want[2])
	}
}

func TestHoldsBalls(t *testing.T) {
	balls := map[string]api.Term{
		"X": a("unbound"), "a": none("a", 0), "1 + f(X)": none("f", 1), "1 // 0": a("zero_divide"), "2 ^ -1": a("negative"), "1 << 63": a("overflow"), "1 =:= 1": none("=:=", 2),
	}
	for _, name := range relationNames() {
		for s, ball := range balls {
			refuses(t, name, read(t, s), i(1), ball, api.ErrKind)
			refuses(t, name, i(1), read(t, s), ball, api.ErrKind)
			// The same term has no number twice.
			refuses(t, name, read(t, s), read(t, s), ball, api.ErrKind)
			for other := range balls {
				refuses(t, name, read(t, s), read(t, other), ball, api.ErrKind)
			}
		}
	}
}

func TestHoldsRefuses(t *testing.T) {
	names := slices.Concat(otherNames(), unaryNames(), binaryNames())
	for _, name := range append(names, "=:= ", "= :=", "=:", "=\\", "><", "<<", "=<<", ">==", "@<", "@=<", "<\x00") {
		refuses(t, name, i(1), i(1), api.Term{}, api.ErrArg)
		refuses(t, name, i(1), i(2), api.Term{}, api.ErrArg)
		// A name that is none is told ahead of numbers that there are not.
		refuses(t, name, v(0), i(1), api.Term{}, api.ErrArg)
		refuses(t, name, i(1), read(t, "1 // 0"), api.Term{}, api.ErrArg)
	}
	for _, x := range nones() {
		for _, name := range []string{"<", "=:=", "=", ""} {
			refuses(t, name, x, i(1), api.Term{}, api.ErrTerm)
			refuses(t, name, i(1), x, api.Term{}, api.ErrTerm)
			refuses(t, name, x, x, api.Term{}, api.ErrTerm)
			refuses(t, name, v(0), x, api.Term{}, api.ErrTerm)
			refuses(t, name, read(t, "1 // 0"), x, api.Term{}, api.ErrTerm)
		}
	}
}
