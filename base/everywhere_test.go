package base_test

import (
	"slices"
	"strconv"
	"strings"
	"testing"

	"hornbook/api"
	"hornbook/base"
)

// writeWhole writes all that can be reached from a list of terms, the room behind each list included.
func writeWhole(out *strings.Builder, list []api.Term) {
	out.WriteString(strconv.Itoa(len(list)))
	out.WriteByte('[')
	for _, t := range list[:cap(list)] {
		for _, n := range []int64{int64(t.Kind), t.N} {
			out.WriteString(strconv.FormatInt(n, 10))
			out.WriteByte(' ')
		}
		out.WriteString(strconv.Quote(t.Name))
		writeWhole(out, t.Args)
	}
	out.WriteByte(']')
}

func whole(list ...api.Term) string {
	var out strings.Builder
	writeWhole(&out, list)
	return out.String()
}

// roomy is t anew, with room behind each list, also behind one that has nothing in it.
func roomy(t api.Term) api.Term {
	full := make([]api.Term, len(t.Args)+2)
	for k, arg := range t.Args {
		full[k] = roomy(arg)
	}
	full[len(t.Args)], full[len(t.Args)+1] = a("room"), c("room", v(0))
	t.Args = full[:len(t.Args)]
	return t
}

func roomyClause(x api.Clause) api.Clause { return rule(roomy(x.Head), roomy(x.Body)) }

// places collects where things lie that can be reached, the room behind each list included.
type places struct {
	terms []*api.Term
	ids   []*int
}

func (l *places) add(t api.Term) {
	list := t.Args[:cap(t.Args)]
	for k := range list {
		l.terms = append(l.terms, &list[k])
		l.add(list[k])
	}
}

func (l *places) addClause(x api.Clause) {
	l.add(x.Head)
	l.add(x.Body)
}

func (l *places) addIds(list []int) {
	list = list[:cap(list)]
	for k := range list {
		l.ids = append(l.ids, &list[k])
	}
}

func hasTwice[T comparable](list []T) bool {
	met := map[T]bool{}
	for _, x := range list {
		if met[x] {
			return true
		}
		met[x] = true
	}
	return false
}

func (l *places) overlap() bool { return hasTwice(l.terms) || hasTwice(l.ids) }

func (l *places) overwrite() {
	for _, x := range l.terms {
		*x = a("overwritten")
	}
	for _, x := range l.ids {
		*x = 77
	}
}

// samples: clauses, terms of which there is none, bodies.
func samples(t *testing.T) []api.Term {
	var list []api.Term
	for _, s := range []string{"p", "p(X,f(Y,[a,b|X]))", "p(Y,X):-X,(q;Y)", "p:-true", "(p(a):-q(f(X,X)),\\+ r(X))", "p(B,f(A,B)):-(A->b(B);C),!", "X", "3", "(a,X)", "(a,3)", "(X;Y->f(Z))", "(:- a)", "(X:-a)", "(a:-b,3)", "call(X)", "(p(f(A),g(B)):-true)", "((a:-b):-c)"} {
		list = append(list, read(t, s))
	}
	x := chance(55)
	for range 200 {
		list = append(list, x.sentence())
	}
	return list
}

// clauses: of what they are made of a term that is a clause, or of two terms that are most often none.
func clauses(t *testing.T) []api.Clause {
	var list []api.Clause
	x := chance(56)
	for _, u := range samples(t) {
		got, err := base.Make(u)
		if err != api.OK {
			got = rule(x.term(2), x.body(2))
		}
		list = append(list, got)
	}
	return list
}

// told is all that is answered of a term and a clause, by calls that keep nothing.
func told(u api.Term, x api.Clause) string {
	body, err := base.Body(u)
	out := show(body) + err.Error()
	made, err := base.Make(u)
	out += showClause(made) + err.Error()
	written, err := base.Plain(x)
	return out + show(written) + err.Error() + strconv.FormatBool(base.Reserved(u.Name, len(u.Args)))
}

func TestNothingIsChanged(t *testing.T) {
	terms, list := slices.Concat(samples(t), nones()), clauses(t)
	for k, u := range terms {
		x := list[k%len(list)]
		want := told(u, x)
		u2, x2 := roomy(u), roomyClause(x)
		before := whole(u2, x2.Head, x2.Body)
		if got := told(u2, x2); got != want {
			t.Errorf("%s, %s: what is answered hangs on the room behind lists: %s", show(u), showClause(x), got)
		}
		if whole(u2, x2.Head, x2.Body) != before {
			t.Errorf("%s, %s: what was handed in was changed", show(u), showClause(x))
		}
	}
}

// answers: the terms that come out, in memory that is to be theirs alone.
func answers(u api.Term, x api.Clause) []api.Term {
	body, _ := base.Body(u)
	made, _ := base.Make(u)
	written, _ := base.Plain(x)
	return []api.Term{body, made.Head, made.Body, written}
}

func TestAnswersAreNewMemory(t *testing.T) {
	list := clauses(t)
	for k, sample := range samples(t) {
		u, x := roomy(sample), roomyClause(list[(k*7+3)%len(list)])
		before, want := whole(u, x.Head, x.Body), told(u, x)
		var all, own, theirs places
		all.add(u)
		all.addClause(x)
		first, second := answers(u, x), answers(u, x)
		for _, t := range slices.Concat(first, second) {
			all.add(t)
		}
		if all.overlap() {
			t.Errorf("%s, %s: memory is shared", show(u), showClause(x))
		}
		for _, t := range first {
			own.add(t)
		}
		kept := whole(second...)
		own.overwrite()
		if whole(u, x.Head, x.Body) != before || whole(second...) != kept || told(u, x) != want {
			t.Errorf("%s, %s: overwriting answers is seen", show(u), showClause(x))
		}
		theirs.add(u)
		theirs.addClause(x)
		theirs.overwrite()
		if whole(second...) != kept {
			t.Errorf("%s: overwriting what was handed in is seen", show(sample))
		}
	}
}

func TestAnswersAreTheSameAgain(t *testing.T) {
	terms, list := slices.Concat(samples(t), nones()), clauses(t)
	var first []string
	for k, u := range terms {
		first = append(first, told(u, list[k%len(list)]))
	}
	for range 3 {
		for k, u := range terms {
			if got := told(u, list[k%len(list)]); got != first[k] {
				t.Fatalf("%s: %s, and then %s", show(u), first[k], got)
			}
		}
	}
}

// goals are asked of a base: some let many of the clauses through, and some are none.
func goals() []api.Term {
	return []api.Term{a("p"), c("p", v(0)), c("p", v(0), v(1)), c("p", a("a")), c("p", c("f", v(3)), v(2)), c("p", c("f", v(3)), c("g", v(3))), a("call"), c("f", v(0)), c("f", v(0), v(1)), c("g", a("a")), a("[]"), c("call", v(0)), v(0), i(3), {}, c("p", api.Term{})}
}

// toldByBase is all that a base tells, but by views.
func toldByBase(b *base.Base) string {
	var out strings.Builder
	for _, id := range b.All() {
		x, err := b.Get(id)
		out.WriteString(strconv.Itoa(id) + showClause(x) + err.Error())
	}
	for _, goal := range goals() {
		list, err := b.Look(goal)
		for _, id := range list {
			out.WriteString(" " + strconv.Itoa(id))
		}
		out.WriteString(err.Error() + strconv.FormatBool(b.Known(goal.Name, len(goal.Args))))
	}
	return out.String()
}

// toldByView is all that a view still has to tell.
func toldByView(v *base.View) string {
	var out strings.Builder
	for id, x, ok := v.Next(); ok; id, x, ok = v.Next() {
		out.WriteString(strconv.Itoa(id) + showClause(x))
	}
	return out.String()
}

func views(b *base.Base) []*base.View {
	var list []*base.View
	for _, goal := range goals() {
		view, _ := b.View(goal)
		list = append(list, view)
	}
	return list
}

// laidDown gives a base with all those that are clauses, every third of them laid ahead of all.
func laidDown(list []api.Clause) *base.Base {
	b := base.New()
	for k, x := range list {
		b.Add(x, k%3 == 2)
	}
	return b
}

func TestBaseLeavesWhatItIsHanded(t *testing.T) {
	list := clauses(t)
	want := toldByBase(laidDown(list))
	var wantViews []string
	for _, view := range views(laidDown(list)) {
		wantViews = append(wantViews, toldByView(view))
	}
	var theirs places
	handed, all := make([]api.Clause, len(list)), []api.Term{}
	for k, x := range list {
		handed[k] = roomyClause(x)
		theirs.addClause(handed[k])
		all = append(all, handed[k].Head, handed[k].Body)
	}
	before := whole(all...)
	b := laidDown(handed)
	if whole(all...) != before {
		t.Error("Add changed a clause")
	}
	taken := views(b)
	theirs.overwrite()
	if got := toldByBase(b); got != want {
		t.Error("overwriting what was handed in is seen:", got)
	}
	for k, view := range taken {
		if got := toldByView(view); got != wantViews[k] {
			t.Error("overwriting what was handed in is seen by a view:", got)
		}
	}
	for k, goal := range goals() {
		own := roomy(goal)
		before := whole(own)
		b.Look(own)
		view, _ := b.View(own)
		if whole(own) != before {
			t.Errorf("%s was changed", show(goal))
		}
		var theirs places
		theirs.add(own)
		theirs.overwrite()
		if got := toldByView(view); got != wantViews[k] {
			t.Errorf("%s: overwriting the goal is seen: %s", show(goal), got)
		}
	}
}

func TestBaseAnswersNewMemory(t *testing.T) {
	list := clauses(t)
	b := laidDown(list)
	want := toldByBase(b)
	var wantViews []string
	for _, view := range views(b) {
		wantViews = append(wantViews, toldByView(view))
	}
	taken := views(b)
	var all places
	for _, x := range list {
		all.addClause(x)
	}
	var own places
	for range 2 {
		for _, id := range b.All() {
			x, _ := b.Get(id)
			own.addClause(x)
		}
		own.addIds(b.All())
		for _, goal := range goals() {
			ids, _ := b.Look(goal)
			own.addIds(ids)
			view, _ := b.View(goal)
			for _, x, ok := view.Next(); ok; _, x, ok = view.Next() {
				own.addClause(x)
			}
		}
	}
	all.terms, all.ids = append(all.terms, own.terms...), append(all.ids, own.ids...)
	if all.overlap() {
		t.Error("memory is shared")
	}
	own.overwrite()
	if got := toldByBase(b); got != want {
		t.Error("overwriting answers is seen:", got)
	}
	for k, view := range taken {
		if got := toldByView(view); got != wantViews[k] {
			t.Error("overwriting answers is seen by a view:", got)
		}
	}
}

// TestBasesAreTheSameAgain: what is told hangs on what was done with the base alone, not on the order of a map.
func TestBasesAreTheSameAgain(t *testing.T) {
	list := clauses(t)
	want := toldByBase(laidDown(list))
	for range 10 {
		b := laidDown(list)
		for range 3 {
			if got := toldByBase(b); got != want {
				t.Fatalf("%s, and then %s", want, got)
			}
		}
	}
}

// TestNoPanic: a panic in any of these would end the test. Beside an error nothing is answered.
func TestNoPanic(t *testing.T) {
	terms := slices.Concat(samples(t)[:40], nones())
	b := laidDown(clauses(t))
	for _, u := range terms {
		if got, err := base.Body(u); isZero(got) == (err == api.OK) {
			t.Errorf("Body of %s: %s, %v", show(u), show(got), err)
		}
		if got, err := base.Make(u); isZeroClause(got) == (err == api.OK) {
			t.Errorf("Make of %s: %s, %v", show(u), showClause(got), err)
		}
		if got, err := b.Look(u); err != api.OK && got != nil {
			t.Errorf("Look of %s: %v, %v", show(u), got, err)
		}
		view, err := b.View(u)
		if (view == nil) == (err == api.OK) {
			t.Errorf("View of %s: %v, %v", show(u), view, err)
		}
		view.Next()
		base.Reserved(u.Name, len(u.Args))
		b.Known(u.Name, len(u.Args))
		for _, w := range terms[:60] {
			for _, x := range []api.Clause{rule(u, w), rule(w, u)} {
				if got, err := base.Plain(x); isZero(got) == (err == api.OK) {
					t.Errorf("Plain of %s: %s, %v", showClause(x), show(got), err)
				}
				if got, err := b.Add(x, len(u.Args) > 1); (got == 0) == (err == api.OK) {
					t.Errorf("Add of %s: %d, %v", showClause(x), got, err)
				}
			}
		}
	}
	for _, id := range []int{least, least + 1, -1, 0, greatest, greatest - 1} {
		if got, err := b.Get(id); err != api.ErrAbsent || !isZeroClause(got) {
			t.Error(id, showClause(got), err)
		}
		if err := b.Remove(id); err != api.ErrAbsent {
			t.Error(id, err)
		}
	}
}
