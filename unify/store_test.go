package unify_test

import (
	"slices"
	"testing"

	"hornbook/api"
	"hornbook/unify"
)

// mirror is a store beside the pairs that should be in it.
type mirror struct {
	t     *testing.T
	store *unify.Store
	pairs []api.Pair
}

func newMirror(t *testing.T) *mirror {
	return &mirror{t: t, store: unify.New()}
}

// unify is told by the pairs alone what it should answer.
func (m *mirror) unify(x, y api.Term) bool {
	m.t.Helper()
	more := append(slices.Clone(m.pairs), p(x, y))
	_, want := naive(more)
	got, err := m.store.Unify(x, y)
	if err != api.OK || got != want {
		m.t.Fatalf("%s, Unify of %s and %s: %v, %v", showPairs(m.pairs), show(x), show(y), got, err)
	}
	if got {
		m.pairs = more
	}
	return got
}

func (m *mirror) undo(mark int) {
	m.t.Helper()
	err := m.store.Undo(mark)
	if mark < 0 || mark > len(m.pairs) {
		if err != api.ErrArg {
			m.t.Fatalf("Undo(%d) with %d pairs: %v", mark, len(m.pairs), err)
		}
		return
	}
	if err != api.OK {
		m.t.Fatalf("Undo(%d) with %d pairs: %v", mark, len(m.pairs), err)
	}
	m.pairs = m.pairs[:mark]
}

// check holds all that the store tells against the pairs.
func (m *mirror) check(terms ...api.Term) {
	m.t.Helper()
	s, _ := naive(m.pairs)
	if got := m.store.Mark(); got != len(m.pairs) {
		m.t.Fatalf("%s: Mark is %d", showPairs(m.pairs), got)
	}
	var bound []int64
	for _, x := range s {
		bound = append(bound, x.Var)
	}
	if got := m.store.Bound(); !slices.Equal(got, bound) {
		m.t.Fatalf("%s: Bound is %v", showPairs(m.pairs), got)
	}
	for _, x := range terms {
		if got, err := m.store.Resolve(x); err != api.OK || !same(got, applied(x, s)) {
			m.t.Fatalf("%s: Resolve of %s is %s, %v", showPairs(m.pairs), show(x), show(got), err)
		}
	}
}

func TestNewStore(t *testing.T) {
	m := newMirror(t)
	m.check(v(0), v(api.MaxVar), i(0), a(""), c("f", v(0), v(1), v(0)))
	m.undo(0)
	for _, k := range []int{-1, 1, 1 << 62, -1 << 63} {
		m.undo(k)
	}
	m.check(v(0))
}

func TestStore(t *testing.T) {
	m := newMirror(t)
	whole := c("f", v(0), v(1), c("g", v(2), v(0)), v(9))
	for k, x := range []struct {
		x, y api.Term
		want bool
	}{
		{v(0), c("f", v(1)), true}, {v(1), v(0), false}, {v(1), a("a"), true}, {v(0), c("f", a("b")), false}, {v(0), c("f", a("a")), true},
		{v(2), v(3), true}, {v(3), v(4), true}, {v(4), v(2), true}, {v(2), c("g", v(4)), false}, {a("a"), a("a"), true}, {a("a"), i(0), false},
		{c("f", v(5), v(6)), c("f", v(6), c("h", v(7))), true}, {v(7), v(5), false}, {v(7), c("h", v(4)), true}, {v(2), c("k", v(5)), false},
		{v(8), v(8), true}, {v(api.MaxVar), v(8), true}, {v(8), v(4), true}, {v(2), i(3), true}, {v(5), c("h", c("h", i(3))), true}, {v(5), c("h", c("h", i(4))), false},
	} {
		if got := m.unify(x.x, x.y); got != x.want {
			t.Errorf("%d: %v", k, got)
		}
		m.check(whole, v(5), v(8), v(api.MaxVar))
	}
	for k := len(m.pairs); k >= 0; k-- {
		m.undo(k + 1)
		m.undo(k)
		m.check(whole, v(5), v(8), v(api.MaxVar))
		m.undo(-1)
		m.undo(k + 1)
		m.check(whole)
	}
}

// TestUndoOfPairsThatSayNothing: they count as the others do.
func TestUndoOfPairsThatSayNothing(t *testing.T) {
	m := newMirror(t)
	for range 3 {
		m.unify(a("a"), a("a"))
		m.unify(v(0), v(1))
		m.unify(c("f", v(1)), c("f", v(0)))
		m.unify(v(2), c("f", v(1)))
		m.unify(v(2), v(2))
	}
	for _, mark := range []int{14, 9, 7, 4, 3, 3, 2, 1, 0} {
		m.undo(mark)
		m.check(c("f", v(0), v(1), v(2)))
		for range 3 {
			m.unify(v(2), c("f", v(3)))
			m.unify(v(4), v(4))
		}
		m.check(c("f", v(0), v(1), v(2), v(3)))
		m.undo(mark)
		m.check(c("f", v(0), v(1), v(2), v(3)))
	}
}

func TestUndoIsOfTheNewestFirst(t *testing.T) {
	s := unify.New()
	for k := range int64(5) {
		if ok, err := s.Unify(v(k), i(k)); !ok || err != api.OK {
			t.Fatal(k, ok, err)
		}
	}
	if s.Undo(2) != api.OK || s.Mark() != 2 || !slices.Equal(s.Bound(), []int64{0, 1}) {
		t.Error(s.Mark(), s.Bound())
	}
	if ok, err := s.Unify(v(2), a("else")); !ok || err != api.OK || s.Mark() != 3 {
		t.Error(ok, err, s.Mark())
	}
	if x, _ := s.Resolve(c("f", v(0), v(1), v(2), v(3))); !same(x, c("f", i(0), i(1), a("else"), v(3))) {
		t.Error(show(x))
	}
	if ok, _ := s.Unify(v(1), v(0)); ok || s.Mark() != 3 {
		t.Error("what is left is not kept")
	}
}

// TestStoreGoesOn: chance tells what is done; the pairs tell what should come of it.
func TestStoreGoesOn(t *testing.T) {
	wrong := nones()
	for seed := range 40 {
		dice, m := chance(seed), newMirror(t)
		vars := 3 + seed%10
		for range 400 {
			switch k := dice.below(20); {
			case k < 13:
				m.unify(dice.term(vars, 2), dice.term(vars, 2))
			case k < 15:
				m.undo(dice.below(len(m.pairs)+3) - 1)
			case k < 16:
				m.undo(max(0, len(m.pairs)-1))
			case k < 17:
				if ok, err := m.store.Unify(dice.term(vars, 2), wrong[dice.below(len(wrong))]); ok || err != api.ErrTerm {
					t.Fatal(ok, err)
				}
			case k < 18:
				if ok, err := m.store.Unify(wrong[dice.below(len(wrong))], dice.term(vars, 2)); ok || err != api.ErrTerm {
					t.Fatal(ok, err)
				}
			}
			if len(m.pairs) > 12 {
				m.undo(dice.below(12))
			}
			m.check(dice.term(vars, 3), dice.term(vars+2, 1))
		}
	}
}

// TestStoreFindsLoops: small terms over many variables, so that a loop goes through many pairs.
func TestStoreFindsLoops(t *testing.T) {
	loops := 0
	for seed := range 60 {
		dice, m := chance(seed+1000), newMirror(t)
		for range 60 {
			x, y := v(int64(dice.below(25))), c("g", v(int64(dice.below(25))))
			if dice.below(3) == 0 {
				x, y = c("g", x), c("g", y)
			}
			if dice.below(5) == 0 {
				y = v(int64(dice.below(25)))
			}
			if !m.unify(x, y) {
				loops++
			}
		}
		m.check(v(0), v(1), v(2), v(24))
	}
	if loops < 200 {
		t.Error("too few loops:", loops)
	}
}

// TestLongLoops: a ring of variables, closed at each place and by pairs in each order.
func TestLongLoops(t *testing.T) {
	const n = 300
	for way, place := range map[string]func(k int) int64{
		"downwards": func(k int) int64 { return int64(k) },
		"upwards":   func(k int) int64 { return int64(n - 1 - k) },
		"mixed":     func(k int) int64 { return int64(k * 101 % n) },
		"doubling":  func(k int) int64 { return int64(k * 7 % n) },
	} {
		s := unify.New()
		for k := range n {
			from := place(k)
			ok, err := s.Unify(v(from), c("f", a("a"), v((from+1)%n)))
			if err != api.OK || ok != (k < n-1) {
				t.Fatalf("%s, pair %d: %v, %v", way, k, ok, err)
			}
		}
		if s.Mark() != n-1 || len(s.Bound()) != n-1 {
			t.Errorf("%s: %d pairs, %d are bound", way, s.Mark(), len(s.Bound()))
		}
		last := place(n - 1)
		if ok, err := s.Unify(v(last), v((last+5)%n)); ok || err != api.OK {
			t.Errorf("%s: a loop by a variable: %v, %v", way, ok, err)
		}
		if ok, err := s.Unify(v(last), v(n)); !ok || err != api.OK {
			t.Errorf("%s: no loop: %v, %v", way, ok, err)
		}
	}
}

// TestLoopsOfTwoOld: two compounds that were in the store are made one, and by that others are nested in one another.
func TestLoopsOfTwoOld(t *testing.T) {
	m := newMirror(t)
	for k, x := range []struct {
		x, y api.Term
		want bool
	}{
		{v(0), c("f", v(1), v(2)), true}, {v(3), c("f", v(4), v(5)), true}, {v(5), c("g", v(1)), true}, {v(4), v(6), true},
		{c("h", v(6), v(3)), c("h", v(2), v(0)), false}, {c("h", v(3), v(6)), c("h", v(0), v(2)), false},
		{v(3), v(0), true}, {v(6), v(2), false}, {v(6), v(5), false}, {v(6), v(0), false}, {v(6), c("g", v(3)), false}, {v(6), v(7), true}, {v(7), v(2), false}, {v(7), a("a"), true},
	} {
		if got := m.unify(x.x, x.y); got != x.want {
			t.Errorf("%d: %v", k, got)
		}
		m.check(v(0), v(3), v(7))
	}
}

func TestErrorsLeaveTheStore(t *testing.T) {
	m := newMirror(t)
	m.unify(v(0), c("f", v(1)))
	m.unify(v(2), v(3))
	for _, x := range nones() {
		for _, y := range []api.Term{v(0), v(1), v(9), a("a"), x} {
			if ok, err := m.store.Unify(x, y); ok || err != api.ErrTerm {
				t.Errorf("Unify of %s and %s: %v, %v", show(x), show(y), ok, err)
			}
			if ok, err := m.store.Unify(y, x); ok || err != api.ErrTerm {
				t.Errorf("Unify of %s and %s: %v, %v", show(y), show(x), ok, err)
			}
		}
		if got, err := m.store.Resolve(x); err != api.ErrTerm || !isZero(got) {
			t.Errorf("Resolve of %s: %s, %v", show(x), show(got), err)
		}
		m.undo(3)
		m.undo(-1)
		m.check(v(0), v(1), v(2), v(3), v(9))
	}
	m.unify(v(1), v(2))
	m.check(v(0), v(1), v(2), v(3), v(9))
}

func TestStoresAreApart(t *testing.T) {
	m, n := newMirror(t), newMirror(t)
	m.unify(v(0), a("a"))
	n.check(v(0))
	n.unify(v(0), a("b"))
	n.unify(v(1), v(0))
	m.check(v(0), v(1))
	m.undo(0)
	n.check(v(0), v(1))
}
