package unify_test

import (
	"testing"

	"hornbook/api"
	"hornbook/unify"
)

// doubling: each variable from the first one on is the compound of the next one twice; written out, the first would have 2^n parts.
func doubling(first int64, n int) []api.Pair {
	var l []api.Pair
	for k := range int64(n) {
		l = append(l, p(v(first+k), c("f", v(first+k+1), v(first+k+1))))
	}
	return l
}

// TestSolveOfWhatCannotBeWrittenOut: to say ErrClash takes no term as it would be written out.
func TestSolveOfWhatCannotBeWrittenOut(t *testing.T) {
	const n = 200
	both := append(doubling(0, n), doubling(1000, n)...)
	both = append(both, p(v(0), v(1000)))
	for k, more := range [][]api.Pair{
		{p(v(n), a("a")), p(v(1000+n), a("b"))}, {p(v(n), c("g", v(0)))}, {p(v(n), c("g", v(1000)))}, {p(v(7), v(1008))}, {p(v(1000+n), v(n-1))},
	} {
		l := append(both[:len(both):len(both)], more...)
		if got, err := unify.Solve(l); err != api.ErrClash || len(got) != 0 {
			t.Errorf("%d: %d, %v", k, len(got), err)
		}
		l = append(more[:len(more):len(more)], both...)
		if got, err := unify.Solve(l); err != api.ErrClash || len(got) != 0 {
			t.Errorf("%d, ahead: %d, %v", k, len(got), err)
		}
	}
}

func TestStoreOfWhatCannotBeWrittenOut(t *testing.T) {
	const n = 200
	s := unify.New()
	for _, x := range append(doubling(0, n), doubling(1000, n)...) {
		if ok, err := s.Unify(x.A, x.B); !ok || err != api.OK {
			t.Fatal(ok, err)
		}
	}
	for range 100 {
		if ok, err := s.Unify(v(0), v(1000)); !ok || err != api.OK {
			t.Fatal(ok, err)
		}
	}
	for _, x := range []api.Pair{p(v(n), c("g", v(0))), p(v(n), c("g", v(1000))), p(v(3), v(1004)), p(v(0), v(n))} {
		if ok, err := s.Unify(x.A, x.B); ok || err != api.OK {
			t.Error(showPairs([]api.Pair{x}), ok, err)
		}
	}
	if got := s.Bound(); len(got) != 2*n+1 || got[n] != 1000 || s.Mark() != 2*n+100 {
		t.Error(len(got), s.Mark())
	}
	if x, err := s.Resolve(c("f", v(1000+n), v(n-1), a("a"))); err != api.OK || !same(x, c("f", v(n), c("f", v(n), v(n)), a("a"))) {
		t.Error(show(x), err)
	}
	if s.Undo(2*n) != api.OK || len(s.Bound()) != 2*n {
		t.Error(s.Mark(), len(s.Bound()))
	}
}

// TestDeep: as many parts nested in one another as the document bounds.
func TestDeep(t *testing.T) {
	const n = 1<<16 - 1
	x := deep(n, func(k int) api.Term { return v(int64(k)) })
	y := deep(n, func(k int) api.Term { return i(int64(k)) })
	l, err := unify.Solve([]api.Pair{p(x, y)})
	if err != api.OK || len(l) != n {
		t.Fatal(len(l), err)
	}
	for k, z := range l {
		if z.Var != int64(k) || !same(z.To, i(int64(k))) {
			t.Fatal(k, z)
		}
	}
	if _, err := unify.Solve([]api.Pair{p(y, deep(n-1, func(k int) api.Term { return i(int64(k)) }))}); err != api.ErrClash {
		t.Error(err)
	}
	if _, err := unify.Solve([]api.Pair{p(v(n-1), x)}); err != api.ErrClash {
		t.Error(err)
	}
	s := unify.New()
	if ok, err := s.Unify(v(n), x); !ok || err != api.OK {
		t.Fatal(ok, err)
	}
	if ok, err := s.Unify(y, v(n)); !ok || err != api.OK {
		t.Fatal(ok, err)
	}
	if z, err := s.Resolve(v(n)); err != api.OK || !same(z, y) {
		t.Error(err)
	}
	if z, err := s.Resolve(x); err != api.OK || !same(z, y) {
		t.Error(err)
	}
	if s.Undo(1) != api.OK || len(s.Bound()) != 1 {
		t.Error(len(s.Bound()))
	}
	if z, err := s.Resolve(v(n)); err != api.OK || !same(z, x) {
		t.Error(err)
	}
}

// TestSolveOfALongChain: each entry of a list is nested in the one ahead of it, by variables.
func TestSolveOfALongChain(t *testing.T) {
	const n = 1<<16 - 2
	x := deep(n, func(k int) api.Term { return v(int64(k)) })
	y := deep(n, func(k int) api.Term { return c("f", v(int64(k+1)%n)) })
	if _, err := unify.Solve([]api.Pair{p(x, y)}); err != api.ErrClash {
		t.Error("a loop", err)
	}
	s := unify.New()
	y = deep(n, func(k int) api.Term { return c("f", v(int64(k+1))) })
	if ok, err := s.Unify(x, y); !ok || err != api.OK || len(s.Bound()) != n {
		t.Error(ok, err, len(s.Bound()))
	}
	y = deep(n, func(k int) api.Term { return v(int64(k+n/2) % n) })
	if ok, err := s.Unify(x, y); ok || err != api.OK || len(s.Bound()) != n {
		t.Error(ok, err, len(s.Bound()))
	}
}

// TestLongChains: of pairs of a store, in either order, nested far deeper than what is handed in.
func TestLongChains(t *testing.T) {
	const n = 40000
	for way, place := range map[string]func(k int64) int64{
		"downwards": func(k int64) int64 { return k },
		"upwards":   func(k int64) int64 { return n - 1 - k },
		"mixed":     func(k int64) int64 { return k * 7919 % n },
	} {
		s := unify.New()
		for k := range int64(n) {
			x := place(k)
			if ok, err := s.Unify(c("h", v(x)), c("h", c("f", v(x+1)))); !ok || err != api.OK {
				t.Fatal(way, k, ok, err)
			}
		}
		if ok, err := s.Unify(v(n), v(0)); ok || err != api.OK {
			t.Error(way, ok, err)
		}
		x, err := s.Resolve(v(0))
		count := 0
		for ; x.Kind == api.Comp && x.Name == "f" && len(x.Args) == 1; x = x.Args[0] {
			count++
		}
		if err != api.OK || count != n || !same(x, v(n)) {
			t.Error(way, count, show(x), err)
		}
		if s.Undo(1) != api.OK || len(s.Bound()) != 1 {
			t.Error(way, len(s.Bound()))
		}
	}
}

// TestLongChainsOfVariables: which are one, in either order.
func TestLongChainsOfVariables(t *testing.T) {
	const n = 100000
	s := unify.New()
	for k := int64(n); k > 0; k-- {
		if ok, err := s.Unify(v(k), v(k-1)); !ok || err != api.OK {
			t.Fatal(k, ok, err)
		}
		if x, err := s.Resolve(v(n)); err != api.OK || !same(x, v(k-1)) {
			t.Fatal(k, show(x), err)
		}
	}
	if l := s.Bound(); len(l) != n || l[0] != 1 || l[n-1] != n {
		t.Error(len(l))
	}
	if s.Undo(n/2) != api.OK || len(s.Bound()) != n/2 {
		t.Error(len(s.Bound()))
	}
	if x, err := s.Resolve(v(n)); err != api.OK || !same(x, v(n/2)) {
		t.Error(show(x), err)
	}
}

// TestListsGrow: a list is gone through from the front, as a search does it, while others grow at the back and at the front.
func TestListsGrow(t *testing.T) {
	const n = 20000
	s := unify.New()
	if ok, err := s.Unify(v(0), deep(n, func(k int) api.Term { return i(int64(k)) })); !ok || err != api.OK {
		t.Fatal(ok, err)
	}
	row, next := []api.Term{v(0), a("[]"), v(1)}, int64(2)
	for range n {
		x, xs, acc, ys := v(next), v(next+1), v(next+2), v(next+3)
		next += 4
		if ok, err := s.Unify(c("p", row...), c("p", c(".", x, xs), acc, c(".", x, ys))); !ok || err != api.OK {
			t.Fatal(ok, err)
		}
		row = []api.Term{xs, c(".", x, acc), ys}
	}
	if ok, err := s.Unify(c("p", row...), c("p", a("[]"), v(next), a("[]"))); !ok || err != api.OK {
		t.Fatal(ok, err)
	}
	if x, err := s.Resolve(v(1)); err != api.OK || !same(x, deep(n, func(k int) api.Term { return i(int64(k)) })) {
		t.Error("to the back", err)
	}
	if x, err := s.Resolve(v(next)); err != api.OK || !same(x, deep(n, func(k int) api.Term { return i(int64(n - 1 - k)) })) {
		t.Error("to the front", err)
	}
}

// TestStoreIsUsedLong: what is undone, or fails, or says nothing costs nothing later.
func TestStoreIsUsedLong(t *testing.T) {
	m := newMirror(t)
	m.unify(v(0), c("f", v(1), v(2)))
	m.unify(v(3), v(1))
	for k := range int64(100000) {
		if ok, err := m.store.Unify(v(0), c("f", i(k), v(k+5))); !ok || err != api.OK {
			t.Fatal(k, ok, err)
		}
		if ok, err := m.store.Unify(v(3), i(k+1)); ok || err != api.OK {
			t.Fatal(k, ok, err)
		}
		if err := m.store.Undo(2); err != api.OK {
			t.Fatal(k, err)
		}
	}
	m.check(v(0), v(1), v(3), v(5), v(100004))
	const n = 400000
	for k := range n {
		if ok, err := m.store.Unify(c("g", v(1)), c("g", v(3))); !ok || err != api.OK {
			t.Fatal(k, ok, err)
		}
	}
	if m.store.Mark() != n+2 || m.store.Undo(n+3) != api.ErrArg || m.store.Undo(3) != api.OK || m.store.Mark() != 3 {
		t.Error(m.store.Mark())
	}
	if m.store.Undo(2) != api.OK {
		t.Error(m.store.Mark())
	}
	m.check(v(0), v(1), v(3))
}
