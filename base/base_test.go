package base_test

import (
	"slices"
	"testing"

	"hornbook/api"
	"hornbook/base"
)

// expect says whether a view gives these clauses, and then none, however often it is asked.
func expect(t *testing.T, v *base.View, ids []int, clauses []api.Clause) {
	t.Helper()
	for k, want := range ids {
		if id, x, ok := v.Next(); id != want || !ok || !sameClause(x, clauses[k]) {
			t.Fatalf("%d, %s, %v, not %d, %s", id, showClause(x), ok, want, showClause(clauses[k]))
		}
	}
	for range 4 {
		if id, x, ok := v.Next(); id != 0 || ok || !isZeroClause(x) {
			t.Fatalf("behind the last one: %d, %s, %v", id, showClause(x), ok)
		}
	}
}

func TestExample(t *testing.T) {
	b := filled(t, "p(a)", "p(f(X))", "p(Y)")
	for _, x := range []struct {
		goal string
		want []int
	}{{"p(b)", []int{3}}, {"p(Z)", []int{1, 2, 3}}, {"p(a)", []int{1, 3}}, {"p(f(c))", []int{2, 3}}, {"p(f(c,d))", []int{3}}, {"p(f)", []int{3}}, {"p(1)", []int{3}}, {"p", nil}, {"p(a,b)", nil}, {"q(a)", nil}} {
		if got, err := b.Look(read(t, x.goal)); err != api.OK || !slices.Equal(got, x.want) {
			t.Errorf("%s: %v, %v", x.goal, got, err)
		}
	}
}

func TestNewBase(t *testing.T) {
	b := base.New()
	if len(b.All()) != 0 || b.Known("p", 0) || b.Known("true", 0) || b.Known("", 0) {
		t.Error(b.All())
	}
	for _, id := range []int{least, -1, 0, 1, 2, greatest} {
		if x, err := b.Get(id); err != api.ErrAbsent || !isZeroClause(x) {
			t.Error(id, showClause(x), err)
		}
		if err := b.Remove(id); err != api.ErrAbsent {
			t.Error(id, err)
		}
	}
	for _, goal := range []api.Term{a("p"), c("p", v(0)), a("true"), c(",", v(0), v(1)), c("call", i(3))} {
		if l, err := b.Look(goal); err != api.OK || len(l) != 0 {
			t.Error(show(goal), l, err)
		}
		v, err := b.View(goal)
		if err != api.OK {
			t.Fatal(show(goal), err)
		}
		expect(t, v, nil, nil)
	}
}

func TestOrder(t *testing.T) {
	b := base.New()
	for k, first := range []bool{false, false, true, true, false, true} {
		if id, err := b.Add(fact(c("p", i(int64(k+1)))), first); id != k+1 || err != api.OK {
			t.Fatal(id, err)
		}
	}
	check := func(want ...int) {
		t.Helper()
		if got := b.All(); !slices.Equal(got, want) {
			t.Errorf("All: %v, not %v", got, want)
		}
		if got, err := b.Look(c("p", v(0))); err != api.OK || !slices.Equal(got, want) {
			t.Errorf("Look: %v, %v, not %v", got, err, want)
		}
	}
	check(6, 4, 3, 1, 2, 5)
	for _, id := range []int{3, 5} {
		if err := b.Remove(id); err != api.OK {
			t.Error(id, err)
		}
	}
	check(6, 4, 1, 2)
	for k, first := range []bool{true, false} {
		if id, err := b.Add(fact(c("p", i(7))), first); id != k+7 || err != api.OK {
			t.Error("ids of clauses that were taken out, or of none:", id, err)
		}
	}
	check(7, 6, 4, 1, 2, 8)
	for _, id := range []int{1, 2, 4, 6, 7, 8} {
		if err := b.Remove(id); err != api.OK {
			t.Error(id, err)
		}
	}
	check()
	if id, err := b.Add(fact(c("p", i(9))), false); id != 9 || err != api.OK {
		t.Error(id, err)
	}
	check(9)
}

// TestErrorsLayNothingDown: nor do they take an id, or make a predicate known.
func TestErrorsLayNothingDown(t *testing.T) {
	b := base.New()
	for _, first := range []bool{false, true} {
		for _, x := range []api.Clause{{}, fact(v(0)), fact(i(1)), fact(c("p", v(1))), rule(a("p"), i(1)), rule(a("p"), v(0)), fact(a("true")), rule(c("print", v(0)), a("a")), fact(c(":-", a("p"), a("q"))), rule(a("p"), api.Term{}), rule(api.Term{}, a("p"))} {
			want := api.ErrClause
			if isZero(x.Head) || isZero(x.Body) {
				want = api.ErrTerm
			}
			if id, err := b.Add(x, first); id != 0 || err != want {
				t.Errorf("%s: %d, %v", showClause(x), id, err)
			}
		}
	}
	for _, name := range []string{"p", "", "true", "print", ":-", "call"} {
		for n := range 4 {
			if b.Known(name, n) {
				t.Errorf("%q/%d is known", name, n)
			}
		}
	}
	if len(b.All()) != 0 {
		t.Error(b.All())
	}
	if id, err := b.Add(fact(a("p")), false); id != 1 || err != api.OK {
		t.Error(id, err)
	}
}

func TestGetAndRemove(t *testing.T) {
	texts := []string{"p(X,Y):-q(Y,X),Y", "p(a,b)", "q", "q:-(a;b)"}
	b := filled(t, texts...)
	for k, s := range texts {
		if x, err := b.Get(k + 1); err != api.OK || !sameClause(x, made(t, s)) {
			t.Errorf("%s: %s, %v", s, showClause(x), err)
		}
	}
	for _, id := range []int{2, 4} {
		if err := b.Remove(id); err != api.OK {
			t.Error(id, err)
		}
	}
	for _, id := range []int{2, 4, 0, -1, -3, 5, least, greatest} {
		if err := b.Remove(id); err != api.ErrAbsent {
			t.Error(id, err)
		}
		if x, err := b.Get(id); err != api.ErrAbsent || !isZeroClause(x) {
			t.Error(id, showClause(x), err)
		}
	}
	if got := b.All(); !slices.Equal(got, []int{1, 3}) {
		t.Error(got)
	}
	if x, err := b.Get(3); err != api.OK || !sameClause(x, fact(a("q"))) {
		t.Error(showClause(x), err)
	}
}

// TestGetOfOneThatCameFirst: an id is above 0, wherever the clause was laid.
func TestGetOfOneThatCameFirst(t *testing.T) {
	b := base.New()
	b.Add(fact(c("p", i(1))), true)
	b.Add(fact(c("p", i(2))), true)
	for _, id := range []int{-1, -2, 0} {
		if _, err := b.Get(id); err != api.ErrAbsent {
			t.Error(id, err)
		}
		if err := b.Remove(id); err != api.ErrAbsent {
			t.Error(id, err)
		}
	}
	if x, err := b.Get(1); err != api.OK || !sameClause(x, fact(c("p", i(1)))) {
		t.Error(showClause(x), err)
	}
	if b.Remove(2) != api.OK || b.Remove(2) != api.ErrAbsent || !slices.Equal(b.All(), []int{1}) {
		t.Error(b.All())
	}
}

func TestKnown(t *testing.T) {
	b := filled(t, "p(X):-q", "r", "''(a,b)")
	check := func() {
		t.Helper()
		for _, x := range []struct {
			name string
			n    int
			want bool
		}{
			{"p", 1, true}, {"p", 0, false}, {"p", 2, false}, {"q", 0, false}, {"r", 0, true}, {"r", 1, false}, {"", 2, true}, {"", 0, false},
			{"r", -1, false}, {"r", least, false}, {"r", 1 << 32, false}, {"p", 1<<32 + 1, false}, {"true", 0, false}, {"p ", 1, false}, {"P", 1, false},
		} {
			if got := b.Known(x.name, x.n); got != x.want {
				t.Errorf("%q/%d: %v", x.name, x.n, got)
			}
		}
	}
	check()
	for _, id := range b.All() {
		b.Remove(id)
		check()
	}
	b.Look(c("s", v(0)))
	b.View(c("s", v(0)))
	if b.Known("s", 1) {
		t.Error("to ask makes a predicate known")
	}
	b.Add(fact(c("s", v(0))), true)
	if !b.Known("s", 1) {
		t.Error("s/1")
	}
}

// firsts: Args of each kind, some of which differ in one thing alone.
func firsts() []api.Term {
	return []api.Term{
		v(0), i(0), i(1), i(-1), i(2), i(3), i(least), i(greatest), a(""), a("a"), a("b"), a("f"), a("1"), a("[]"), a("."), a("_"),
		c("f", a("a")), c("f", v(0)), c("f", i(1)), c("f", a("a"), a("b")), c("f", v(0), v(1)), c("f", v(0), v(0), v(0)), c("g", a("a")), c("g", v(0)), c("", v(0)), c("a", v(0)), c(".", v(0), v(1)), c(".", a("a"), a("[]")), c("1", i(1)), of("f", api.MaxArity),
	}
}

func TestFirstArg(t *testing.T) {
	for _, others := range [][]api.Term{nil, {a("z")}, {i(1), c("f", i(2)), a("a")}} {
		b := base.New()
		var heads []api.Term
		for _, name := range []string{"p", "q"} {
			for range 2 {
				for _, x := range firsts() {
					head := c(name, append([]api.Term{x}, others...)...)
					if _, err := b.Add(fact(head), false); err != api.OK {
						t.Fatal(show(head), err)
					}
					heads = append(heads, head)
				}
			}
		}
		for _, x := range append(firsts(), v(5), i(7), a("else"), c("else", v(3)), c("f", c("f", v(9)))) {
			// What stands behind the first Arg keeps nothing out.
			for _, more := range [][]api.Term{others, slices.Repeat([]api.Term{a("unlike")}, len(others)), append(others[:len(others):len(others)], v(1))} {
				goal := c("p", append([]api.Term{x}, more...)...)
				var want []int
				for k, head := range heads {
					if letsThrough(head, goal) {
						want = append(want, k+1)
					}
				}
				if got, err := b.Look(goal); err != api.OK || !slices.Equal(got, want) {
					t.Errorf("%s: %v, %v, not %v", show(goal), got, err, want)
				}
			}
		}
	}
}

func TestGoalsThatAreNone(t *testing.T) {
	b := filled(t, "p", "p(X)")
	for _, goal := range []api.Term{v(0), v(7), v(api.MaxVar), i(0), i(3), i(least)} {
		if l, err := b.Look(goal); err != api.ErrClause || l != nil {
			t.Error(show(goal), l, err)
		}
		view, err := b.View(goal)
		if err != api.ErrClause || view != nil {
			t.Error(show(goal), view, err)
		}
		expect(t, view, nil, nil)
	}
	// Any compound is a goal, whether clauses of it may be laid down or not.
	for _, goal := range []api.Term{c(",", i(3), v(0)), a("!"), c(":-", a("p"), i(1)), c("p", v(0), v(1))} {
		if l, err := b.Look(goal); err != api.OK || len(l) != 0 {
			t.Error(show(goal), l, err)
		}
	}
}

func TestViewStaysAsItWas(t *testing.T) {
	texts := []string{"p(a)", "p(f(X)):-q(X)", "p(Y):-r", "p(b)", "p(f(g))"}
	var clauses []api.Clause
	for _, s := range texts {
		clauses = append(clauses, made(t, s))
	}
	for _, gone := range [][]int{{1}, {2}, {3}, {1, 2}, {2, 1}, {2, 3}, {3, 2}, {3, 4, 5}, {5, 4, 3}, {1, 2, 3, 4, 5}, {5, 4, 3, 2, 1}, {2, 4, 1, 3, 5}} {
		for given := range len(texts) + 1 {
			b := filled(t, texts...)
			view, _ := b.View(c("p", v(3)))
			for k := range given {
				if id, x, ok := view.Next(); id != k+1 || !ok || !sameClause(x, clauses[k]) {
					t.Fatal(id, showClause(x), ok)
				}
			}
			for _, id := range gone {
				b.Add(fact(c("p", a("new"))), true)
				b.Add(fact(c("p", v(0))), false)
				if err := b.Remove(id); err != api.OK {
					t.Fatal(id, err)
				}
			}
			expect(t, view, []int{1, 2, 3, 4, 5}[given:], clauses[given:])
			b.Add(fact(c("p", v(0))), false)
			expect(t, view, nil, nil)
		}
	}
}

func TestBasesAreApart(t *testing.T) {
	x, y := filled(t, "p(a)", "p(b)"), filled(t, "q", "q", "q")
	view, _ := x.View(c("p", v(0)))
	if y.Known("p", 1) || x.Known("q", 0) || y.Remove(2) != api.OK || len(x.All()) != 2 || len(y.All()) != 2 {
		t.Error(x.All(), y.All())
	}
	if id, _ := y.Add(fact(c("p", a("c"))), true); id != 4 {
		t.Error(id)
	}
	expect(t, view, []int{1, 2}, []api.Clause{fact(c("p", a("a"))), fact(c("p", a("b")))})
}

// laid is a clause in a mirror.
type laid struct {
	id     int
	clause api.Clause
}

// watch is a view, and what it has still to give.
type watch struct {
	view *base.View
	left []laid
}

// mirror has a base, and the same as a plain list.
type mirror struct {
	t       *testing.T
	base    *base.Base
	list    []laid
	count   int
	known   []api.Term
	watches []watch
}

func (m *mirror) add(x api.Clause, first bool) {
	id, err := m.base.Add(x, first)
	m.count++
	if id != m.count || err != api.OK {
		m.t.Fatalf("%s: %d, %v, not %d", showClause(x), id, err, m.count)
	}
	place := len(m.list)
	if first {
		place = 0
	}
	m.list = slices.Insert(m.list, place, laid{id, x})
	m.known = append(m.known, x.Head)
}

func (m *mirror) remove(id int) {
	want := api.ErrAbsent
	for k, x := range m.list {
		if x.id == id {
			want = api.OK
			m.list = slices.Delete(slices.Clone(m.list), k, k+1)
			break
		}
	}
	if err := m.base.Remove(id); err != want {
		m.t.Fatalf("Remove of %d: %v", id, err)
	}
}

// looked is what Look must tell.
func (m *mirror) looked(goal api.Term) []laid {
	var list []laid
	for _, x := range m.list {
		if letsThrough(x.clause.Head, goal) {
			list = append(list, x)
		}
	}
	return list
}

func (m *mirror) view(goal api.Term) {
	view, err := m.base.View(goal)
	if err != api.OK {
		m.t.Fatal(show(goal), err)
	}
	m.watches = append(m.watches, watch{view, m.looked(goal)})
}

func (m *mirror) next(k int) {
	w := &m.watches[k]
	id, x, ok := w.view.Next()
	if len(w.left) == 0 {
		if id != 0 || ok || !isZeroClause(x) {
			m.t.Fatalf("behind the last one: %d, %s, %v", id, showClause(x), ok)
		}
		return
	}
	if id != w.left[0].id || !ok || !sameClause(x, w.left[0].clause) {
		m.t.Fatalf("%d, %s, %v, not %d, %s", id, showClause(x), ok, w.left[0].id, showClause(w.left[0].clause))
	}
	w.left = w.left[1:]
}

// check holds all that the base tells against the list.
func (m *mirror) check(goal api.Term) {
	var ids, looked []int
	for _, x := range m.list {
		ids = append(ids, x.id)
	}
	if got := m.base.All(); !slices.Equal(got, ids) {
		m.t.Fatalf("All: %v, not %v", got, ids)
	}
	for _, x := range m.looked(goal) {
		looked = append(looked, x.id)
	}
	if got, err := m.base.Look(goal); err != api.OK || !slices.Equal(got, looked) {
		m.t.Fatalf("Look of %s: %v, %v, not %v", show(goal), got, err, looked)
	}
	known := slices.ContainsFunc(m.known, func(x api.Term) bool { return x.Name == goal.Name && len(x.Args) == len(goal.Args) })
	if m.base.Known(goal.Name, len(goal.Args)) != known {
		m.t.Fatalf("Known of %s: %v", show(goal), !known)
	}
	for id := range m.count + 2 {
		at := slices.IndexFunc(m.list, func(x laid) bool { return x.id == id })
		x, err := m.base.Get(id)
		if at < 0 && (err != api.ErrAbsent || !isZeroClause(x)) || at >= 0 && (err != api.OK || !sameClause(x, m.list[at].clause)) {
			m.t.Fatalf("Get of %d: %s, %v", id, showClause(x), err)
		}
	}
}

// goal has few names and first Args, so that many clauses are let through.
func (x *chance) goal() api.Term {
	name, args := pick(x, []string{"p", "q"}), x.below(3)
	if args == 0 {
		return a(name)
	}
	first := pick(x, []api.Term{v(0), v(0), a("a"), a("b"), i(1), i(2), c("f", v(0)), c("f", a("a")), c("f", v(0), v(1)), c("g", v(0))})
	head := c(name, first)
	if args == 2 {
		head = c(name, first, pick(x, []api.Term{v(0), a("a"), i(3)}))
	}
	head, _ = numbered(head, nil)
	return head
}

// TestBaseGoesOn: chance tells what is done; a plain list tells what should come of it.
func TestBaseGoesOn(t *testing.T) {
	for seed := range 60 {
		dice := chance(seed)
		m := &mirror{t: t, base: base.New()}
		for range 300 {
			switch k := dice.below(20); {
			case k < 8-seed%5:
				m.add(rule(dice.goal(), pick(&dice, []api.Term{a("true"), a("r"), c("s", i(int64(m.count)))})), dice.below(3) == 0)
			case k < 9:
				m.remove(dice.below(m.count+3) - 1)
			case k < 11 && len(m.list) > 0:
				m.remove(pick(&dice, m.list).id)
			case k < 12 && len(m.watches) < 12:
				m.view(dice.goal())
			case k < 13:
				if id, err := m.base.Add(fact(pick(&dice, []api.Term{v(0), i(1), c("p", v(1)), a("true")})), dice.below(2) == 0); id != 0 || err != api.ErrClause {
					t.Fatal(id, err)
				}
			case len(m.watches) > 0:
				m.next(dice.below(len(m.watches)))
			}
			m.check(dice.goal())
		}
		for k := range m.watches {
			for range len(m.watches[k].left) + 3 {
				m.next(k)
			}
		}
	}
}
