package cell

import (
	"testing"

	"hornbook/api"
	"hornbook/term"
	"hornbook/unify"
)

// TestStore holds what is bound, undone and kept against a store of pairs (doc/02-unify.md), which is told by other means.
func TestStore(t *testing.T) {
	x := chance(1)
	for round := range 600 {
		vars := 4 + x.below(30)
		wide := round%3 == 0
		make := func() api.Term {
			if wide {
				return x.wide(vars)
			}
			return x.term(vars, 3)
		}
		w, theirs := newValues(vars), unify.New()
		query := c("q", make(), make(), make())
		own := w.of(query)
		var marks []int
		for range 40 {
			switch x.below(8) {
			case 0, 1, 2, 3:
				// What can't be unified is undone by the store of pairs itself.
				one, other := make(), make()
				if x.below(2) == 0 {
					one = v(int64(x.below(vars)))
				}
				w.store.Mark()
				got := w.store.Unify(w.of(one), w.of(other))
				if !got {
					w.store.Back()
				}
				w.store.Keep(w.store.Marks() - 1)
				if want, _ := theirs.Unify(one, other); got != want {
					t.Fatalf("round %d: %s and %s: %v", round, show(one), show(other), got)
				}
			case 4:
				one, other := make(), make()
				if got, _ := theirs.Unify(one, other); got != w.store.Try(w.of(one), w.of(other)) {
					t.Fatalf("round %d: %s and %s: %v", round, show(one), show(other), !got)
				}
			case 5:
				w.store.Mark()
				marks = append(marks, theirs.Mark())
			case 6:
				if len(marks) > 0 {
					w.store.Back()
					theirs.Undo(marks[len(marks)-1])
				}
			case 7:
				keep := x.below(len(marks) + 1)
				w.store.Keep(keep)
				marks = marks[:keep]
			}
			want, _ := theirs.Resolve(query)
			want, _, _ = term.Rename(want, 0)
			if got := Written(own); show(got) != show(want) {
				t.Fatalf("round %d: %s, not %s", round, show(got), show(want))
			}
			if w.store.Marks() != len(marks) {
				t.Fatal(round, w.store.Marks(), len(marks))
			}
		}
	}
}

// TestLater holds what comes of many unifications, if loops are looked for behind all of them, against the unifier of all pairs.
func TestLater(t *testing.T) {
	x := chance(4)
	solved, clashed, looped := 0, 0, 0
	for round := range 3000 {
		vars := 4 + x.below(30)
		w := newValues(vars)
		w.store.Later()
		var pairs []api.Pair
		ok := true
		for range 1 + x.below(8) {
			one, other := x.term(vars, 3), x.term(vars, 3)
			if round%3 == 0 {
				one, other = x.wide(vars), v(int64(x.below(vars)))
			}
			pairs = append(pairs, api.Pair{A: one, B: other})
			if ok = w.store.Unify(w.of(one), w.of(other)); !ok {
				break
			}
		}
		s, err := unify.Solve(pairs)
		loops := ok && w.store.Loops()
		if (ok && !loops) != (err == api.OK) {
			t.Fatalf("round %d: %v, %v, not %v", round, ok, loops, err)
		}
		switch {
		case !ok:
			clashed++
			continue
		case loops:
			looped++
			continue
		}
		solved++
		var all []api.Term
		for n := range vars {
			all = append(all, v(int64(n)))
		}
		query := c("q", all...)
		want, _ := term.Apply(query, s)
		want, _, _ = term.Rename(want, 0)
		if got := Written(w.of(query)); show(got) != show(want) {
			t.Fatalf("round %d: %s, not %s", round, show(got), show(want))
		}
	}
	if solved < 400 || clashed < 400 || looped < 400 {
		t.Error(solved, clashed, looped)
	}
}

// TestLaterIsNotLong: great terms that are the same are gone through once, however often they are to be made so.
func TestLaterIsNotLong(t *testing.T) {
	const n = 20000
	s := &Store{}
	s.Later()
	x, y := s.Variable(), s.Variable()
	var one, other Value = x, y
	for range n {
		one, other = Made("f", one, one), Made("f", other, other)
	}
	for range n {
		if !s.Unify(one, other) {
			t.Fatal("two that are alike are not unified")
		}
	}
	if s.Loops() || Deref(x) != Deref(y) {
		t.Error(s.Loops())
	}
	if !s.Unify(x, Made("g", other)) || !s.Loops() {
		t.Error("a term is in itself")
	}
}

// TestReadAll: terms that are read together have the variables of one number in common, and no others.
func TestReadAll(t *testing.T) {
	s := &Store{}
	l := s.ReadAll(c("f", v(3), v(0)), v(0), a("a"), c("g", v(3), v(4)), i(2))
	if got, want := show(Written(Made("l", l...))), show(c("l", c("f", v(0), v(1)), v(1), a("a"), c("g", v(0), v(2)), i(2))); got != want {
		t.Error(got, want)
	}
	other := s.Read(v(0))
	if other == l[1] || other == s.Read(v(0)) {
		t.Error("what is not read together has a variable in common")
	}
	if got := s.ReadAll(); len(got) != 0 {
		t.Error(len(got))
	}
}

// TestWalks holds what is told of terms, with variables that are bound in them, against what package term says of them written out.
func TestWalks(t *testing.T) {
	x := chance(2)
	for round := range 3000 {
		vars := 2 + x.below(12)
		w := newValues(vars)
		var l []Value
		for range 4 {
			made := x.term(vars, 4)
			if round%4 == 0 {
				made = x.wide(vars)
			}
			l = append(l, w.of(made))
			if x.below(3) == 0 {
				l[len(l)-1] = Made("h", l[x.below(len(l))], l[len(l)-1])
			}
		}
		for range 3 {
			w.store.Try(w.of(x.term(vars, 1)), w.of(x.term(vars, 3)))
		}
		for k, one := range l {
			written := Written(one)
			names, _ := term.Vars(written)
			if IsGround(one) != (len(names) == 0) {
				t.Fatalf("round %d: %s is ground: %v", round, show(written), IsGround(one))
			}
			twin := w.store.Copy(one)
			if is, _ := term.Variant(Written(twin), written); !is {
				t.Fatalf("round %d: the copy of %s is %s", round, show(written), show(Written(twin)))
			}
			if len(names) > 0 && Same(one, twin) {
				t.Fatalf("round %d: %s is the same as its copy", round, show(written))
			}
			for n, given := range w.given {
				free, is := Deref(given).(*Variable)
				if !is {
					continue
				}
				both, _ := term.Vars(Written(one))
				with, _ := term.Vars(Written(Made("with", one, free)))
				if IsWithin(free, one) != (len(both) == len(with)) {
					t.Fatalf("round %d: the variable %d is within %s: %v", round, n, show(written), IsWithin(free, one))
				}
			}
			for _, other := range append(l[k:], twin) {
				both := Written(Made("both", one, other))
				order, unclear := Compare(one, other)
				wantOrder, wantUnclear := compared(both.Args[0], both.Args[1])
				if unclear != wantUnclear || !unclear && order != wantOrder || Same(one, other) != (wantOrder == 0) {
					t.Fatalf("round %d: %s: %d, %v", round, show(both), order, unclear)
				}
			}
		}
	}
}

// TestWithin: of great terms too, also of those whose parts stand in them over and over.
func TestWithin(t *testing.T) {
	s := &Store{}
	v, other, alone, bound := s.Variable(), s.Variable(), s.Variable(), s.Variable()
	for _, x := range []struct {
		t    Value
		want bool
	}{{v, true}, {other, false}, {Atom("a"), false}, {Number(0), false}, {Made("f", v), true}, {Made("f", Atom("a"), other), false}, {bound, false}} {
		if IsWithin(v, x.t) != x.want {
			t.Error(show(Written(x.t)), !x.want)
		}
	}
	s.Bind(bound, Made("f", Made("g", v)))
	if !IsWithin(v, bound) || !IsWithin(v, Made("f", bound)) || IsWithin(other, bound) || IsWithin(alone, bound) {
		t.Error("what a variable is bound to")
	}
	var long, twice, without, deep Value = v, v, other, Made("f", Atom("a"), v)
	for range 20000 {
		long, twice, without, deep = Made("f", Atom("a"), long), Made("f", twice, twice), Made("f", without, without), Made("f", deep, other)
	}
	for k, x := range []Value{long, twice, deep} {
		if !IsWithin(v, x) || IsWithin(alone, x) {
			t.Error(k)
		}
	}
	if IsWithin(v, without) {
		t.Error("without it")
	}
}

// TestBind: what is bound is undone, if it is older than the mark.
func TestBind(t *testing.T) {
	s := &Store{}
	old := s.Variable()
	s.Mark()
	young := s.Variable()
	s.Bind(old, Made("f", young))
	s.Bind(young, Atom("a"))
	if got := show(Written(old)); got != show(c("f", a("a"))) || len(s.trail) != 1 {
		t.Error(got, len(s.trail))
	}
	s.Back()
	if Deref(old) != old {
		t.Error("it is still bound")
	}
}

// compared is the order of two terms, and whether the first place at which they differ has two variables.
func compared(x, y api.Term) (int, bool) {
	if x.Kind == api.Comp && y.Kind == api.Comp && x.Name == y.Name && len(x.Args) == len(y.Args) {
		for k := range x.Args {
			if order, unclear := compared(x.Args[k], y.Args[k]); order != 0 {
				return order, unclear
			}
		}
		return 0, false
	}
	order, _ := term.Compare(x, y)
	return order, order != 0 && x.Kind == api.Var && y.Kind == api.Var
}

// TestRules holds entering a rule against unifying its head, written out, with the goal.
func TestRules(t *testing.T) {
	x := chance(3)
	for round := range 6000 {
		vars := 2 + x.below(6)
		head, body, goal := c("p", x.term(vars, 3), x.term(vars, 2)), x.term(vars+2, 2), c("p", x.term(vars, 3), x.term(vars, 2))
		if round%3 == 0 {
			head, goal = c("p", x.wide(vars), x.wide(vars)), c("p", v(0), v(1))
		}
		both, _, _ := term.Rename(c(":-", head, body), 0)
		rule := NewRule(api.Clause{Head: both.Args[0], Body: both.Args[1]})
		w := newValues(vars)
		own := w.of(goal)
		_, args := Parts(own)
		slots, ok := w.store.Enter(rule, args)
		moved, _, _ := term.Rename(both, 1000)
		s, err := unify.Solve([]api.Pair{{A: moved.Args[0], B: goal}})
		if ok != (err == api.OK) {
			t.Fatalf("round %d: %s and %s: %v", round, show(goal), show(both), ok)
		}
		if !ok {
			continue
		}
		want, _ := term.Apply(c("both", goal, moved.Args[1]), s)
		want, _, _ = term.Rename(want, 0)
		if got := Written(Made("both", own, w.store.Build(rule.Body, slots))); show(got) != show(want) {
			t.Fatalf("round %d: %s and %s: %s, not %s", round, show(goal), show(both), show(got), show(want))
		}
	}
}

// TestTrail: it has no more in it than can be undone, and a little, however much was bound.
func TestTrail(t *testing.T) {
	s := &Store{}
	for range 5 {
		s.Mark()
	}
	old := make([]*Variable, 100)
	for k := range old {
		old[k] = s.Variable()
	}
	s.Mark()
	for k := range 100000 {
		s.Mark()
		mine := s.Variable()
		s.Mark()
		if k < len(old) {
			s.Unify(old[k], Number(k))
		}
		s.Unify(mine, Number(k))
		s.Keep(s.Marks() - 2)
	}
	if len(s.trail) > 400 {
		t.Error(len(s.trail))
	}
	for k, x := range old {
		if Deref(x) != Number(k) {
			t.Fatal(k, Deref(x))
		}
	}
	s.Back()
	for k, x := range old {
		if Deref(x) != x {
			t.Fatal(k, Deref(x))
		}
	}
	s.Unify(old[0], Atom("a"))
	s.Keep(0)
	if len(s.trail) != 0 || Deref(old[0]) != Atom("a") {
		t.Error(len(s.trail), Deref(old[0]))
	}
	for _, x := range old[1:] {
		s.Unify(x, Atom("b"))
	}
	if len(s.trail) != 0 {
		t.Error(len(s.trail))
	}
}

// TestUndoMany: however many were bound behind whichever of some marks, just those are free again.
func TestUndoMany(t *testing.T) {
	const n = 1000
	for marks := 1; marks < 5; marks++ {
		s := &Store{}
		var old [][]*Variable
		for k := range marks + 1 {
			l := make([]*Variable, n)
			for m := range l {
				l[m] = s.Variable()
			}
			old = append(old, l)
			if k == marks {
				break
			}
			s.Mark()
			// Half of those that are older than this mark are bound behind it.
			for _, l := range old {
				for m := k; m < n; m += 2 * marks {
					if l[m].to == nil {
						s.Unify(l[m], Number(k))
					}
				}
			}
		}
		for k := marks - 1; k >= 0; k-- {
			s.Back()
			for age, l := range old[:k+1] {
				for m, v := range l {
					behind := m % (2 * marks)
					free := behind >= k || behind < age
					if free != (Deref(v) == v) {
						t.Fatal(marks, k, age, m, Deref(v))
					}
				}
			}
			s.Keep(k)
		}
	}
}

// TestJoints: however variables were joined, the way from one to what it stands for is short.
func TestJoints(t *testing.T) {
	const n = 1 << 12
	for way, couple := range map[string]func(k int) (int, int){
		"from the first": func(k int) (int, int) { return k, k + 1 },
		"from the last":  func(k int) (int, int) { return n - 1 - k, n - 2 - k },
		"to the first":   func(k int) (int, int) { return 0, k + 1 },
		"to the last":    func(k int) (int, int) { return n - 2 - k, n - 1 },
	} {
		for range 2 {
			s := &Store{}
			l := make([]*Variable, n)
			for k := range l {
				l[k] = s.Variable()
			}
			for k := range n - 1 {
				one, other := couple(k)
				s.Unify(l[one], l[other])
			}
			for k, x := range l {
				joints := 0
				for x.to != nil {
					next, is := x.to.(*Variable)
					if !is {
						break
					}
					x = next
					joints++
				}
				if joints > 13 {
					t.Fatal(way, k, joints)
				}
			}
			swap := couple
			couple = func(k int) (int, int) {
				one, other := swap(k)
				return other, one
			}
		}
	}
}

func TestLists(t *testing.T) {
	s := &Store{}
	free, bound := s.Variable(), s.Variable()
	s.Unify(bound, Atom("b"))
	one := Made(".", Number(1), Made(".", bound, Atom("[]")))
	whole := s.Variable()
	s.Unify(whole, one)
	for _, l := range []struct {
		list     Value
		entries  int
		is, open bool
	}{
		{Atom("[]"), 0, true, false}, {one, 2, true, false}, {free, 0, false, true}, {Made(".", one, free), 1, false, true}, {Made(".", one, Number(1)), 1, false, false},
		{Atom("a"), 0, false, false}, {Made(".", one, one, one), 0, false, false}, {Made("f", one, one), 0, false, false}, {Number(3), 0, false, false}, {Made(".", one, one), 3, true, false}, {whole, 2, true, false}, {Made(".", whole, whole), 3, true, false},
	} {
		entries, is, open := Entries(l.list)
		if len(entries) != l.entries || is != l.is || open != l.open {
			t.Error(show(Written(l.list)), len(entries), is, open)
		}
		if is && !Same(List(entries), l.list) {
			t.Error(show(Written(l.list)), show(Written(List(entries))))
		}
	}
}

// TestFixed: what has no variable in it is not gone through again, and is not copied.
func TestFixed(t *testing.T) {
	s := &Store{}
	free, bound := s.Variable(), s.Variable()
	s.Unify(bound, Made("f", Number(1)))
	for _, l := range []struct {
		of   Value
		want bool
	}{
		{Made("f", Number(1), Atom("a")), true}, {Made("f", Made("g", Atom("a"))), true}, {Made("f", bound), true}, {Made("f", Made("g", bound), Number(1)), true},
		{Made("f", Atom("a"), free), false}, {Made("f", free, Atom("a")), false}, {Made("f", Made("g", free), Made("g", Number(1))), false}, {Made("f", Slot(1)), false},
	} {
		c, is := l.of.(*Compound)
		if !is || c.fixed != l.want {
			t.Error(l.of, l.want)
		}
		if is && c.fixed && s.Copy(c) != l.of {
			t.Error(l.of, "is copied")
		}
	}
	// A variable that stands in a compound later is not in it for good.
	open := Made("f", free)
	s.Mark()
	s.Unify(free, Atom("a"))
	twin := s.Copy(open)
	s.Back()
	if !Same(twin, Made("f", Atom("a"))) || IsGround(open) {
		t.Error(show(Written(twin)), show(Written(open)))
	}
}

// TestInside: where a variable stands in no compound, it is not looked for; where it may, it is.
func TestInside(t *testing.T) {
	s := &Store{}
	x, y, z := s.Variable(), s.Variable(), s.Variable()
	for _, v := range []*Variable{x, y, z} {
		if v.inside {
			t.Error("a new variable stands in a compound")
		}
	}
	one := Made("f", x)
	s.Unify(y, z)
	s.Unify(x, y)
	for _, v := range []*Variable{x, y, z} {
		if Deref(v) == v && !v.inside {
			t.Error("what a variable of a compound is bound to does not stand in it")
		}
	}
	if s.Try(z, one) || s.Try(one, y) || s.Try(Made("g", one), Made("g", x)) {
		t.Error("a term is in itself")
	}
}

// TestLoopsOfMany: loops that are too long to be found at once, also such as the first of some variables does but lead into.
func TestLoopsOfMany(t *testing.T) {
	for links, want := range map[string]bool{
		"1 2 3 4 5": true, "5 4 3 2 1": false, "1": true, "0": false, "1 2 0": false, "1 2 1": false, "1 2 3 1": false, "1 2 3 2": false, "3 1 2 1": false, "2 0": true, "2 3 4 5 4": false, "2 4 1 5 3": true, "2 4 1 0 3": false, "1 1": false,
	} {
		s := &Store{}
		l := make([]Value, 6)
		for k := range l {
			l[k] = s.Variable()
		}
		wide := func(last Value) Value {
			args := make([]Value, api.MaxArity)
			for k := range args {
				args[k] = Made("g", Made("g", s.Variable()))
			}
			args[len(args)-1] = last
			return Made("w", args...)
		}
		// Each variable stands in some compound, and is bound to one in which that stands to which it is linked.
		var from, to []Value
		for k := range len(links)/2 + 1 {
			from, to = append(from, l[k]), append(to, wide(Made("h", l[links[2*k]-'0'])))
		}
		if got := s.Try(Made("f", from...), Made("f", to...)); got != want {
			t.Error(links, got)
		}
		for k, v := range l {
			if bound := Deref(v) != v; bound != (want && k < len(from)) {
				t.Error(links, k, bound)
			}
		}
	}
}
