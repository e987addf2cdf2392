package term_test

import (
	"testing"

	"hornbook/api"
	"hornbook/term"
)

func TestPaths(t *testing.T) {
	x := c("f", i(1), c("g", i(2), c("h", v(0))), a("b"))
	u := c("k", v(5))
	for _, y := range []struct {
		path    []int
		at, put api.Term
	}{
		{nil, x, u},
		{[]int{}, x, u},
		{[]int{0}, i(1), c("f", u, c("g", i(2), c("h", v(0))), a("b"))},
		{[]int{1}, c("g", i(2), c("h", v(0))), c("f", i(1), u, a("b"))},
		{[]int{2}, a("b"), c("f", i(1), c("g", i(2), c("h", v(0))), u)},
		{[]int{1, 0}, i(2), c("f", i(1), c("g", u, c("h", v(0))), a("b"))},
		{[]int{1, 1}, c("h", v(0)), c("f", i(1), c("g", i(2), u), a("b"))},
		{[]int{1, 1, 0}, v(0), c("f", i(1), c("g", i(2), c("h", u)), a("b"))},
	} {
		if got, err := term.At(x, y.path); err != api.OK || !same(got, y.at) {
			t.Errorf("At %v: %s, %v", y.path, show(got), err)
		}
		if got, err := term.Put(x, y.path, u); err != api.OK || !same(got, y.put) {
			t.Errorf("Put %v: %s, %v", y.path, show(got), err)
		}
	}
	if got, err := term.Put(x, []int{1, 0}, x); err != api.OK || !same(got, c("f", i(1), c("g", x, c("h", v(0))), a("b"))) {
		t.Errorf("Put of a term into itself: %s, %v", show(got), err)
	}
	if got, err := term.At(a("a"), nil); err != api.OK || !same(got, a("a")) {
		t.Errorf("At of an atom: %s, %v", show(got), err)
	}
	if got, err := term.Put(v(1), nil, i(2)); err != api.OK || !same(got, i(2)) {
		t.Errorf("Put of a variable: %s, %v", show(got), err)
	}
}

func TestPathsThatAreAbsent(t *testing.T) {
	x := c("f", i(1), c("g", i(2)))
	for _, path := range [][]int{{-1}, {2}, {-1 << 63}, {1<<63 - 1}, {0, 0}, {1, 1}, {1, -1}, {1, 0, 0}, {5, 0}, {1, 0, 0, 0, 0}} {
		if got, err := term.At(x, path); err != api.ErrAbsent || !isZero(got) {
			t.Errorf("At %v: %s, %v", path, show(got), err)
		}
		if got, err := term.Put(x, path, a("a")); err != api.ErrAbsent || !isZero(got) {
			t.Errorf("Put %v: %s, %v", path, show(got), err)
		}
		for _, bad := range nones() {
			if _, err := term.At(bad, path); err != api.ErrTerm {
				t.Errorf("At %v of %s: %v", path, show(bad), err)
			}
			if _, err := term.Put(x, path, bad); err != api.ErrTerm {
				t.Errorf("Put %v of %s: %v", path, show(bad), err)
			}
			if _, err := term.Put(bad, path, x); err != api.ErrTerm {
				t.Errorf("Put %v into %s: %v", path, show(bad), err)
			}
		}
	}
}
