package unify_test

import (
	"slices"
	"strconv"
	"strings"
	"testing"

	"hornbook/api"
	"hornbook/unify"
)

// writeWhole writes all that can be reached from a list of terms, the room behind each list included.
func writeWhole(out *strings.Builder, list []api.Term) {
	out.WriteString(strconv.Itoa(len(list)))
	out.WriteByte('[')
	for _, t := range list[:cap(list)] {
		for _, n := range []int64{int64(t.Kind), t.N} {
			out.WriteString(strconv.FormatInt(n, 10))
			out.WriteByte(' ')
		}
		out.WriteString(strconv.Quote(t.Name))
		writeWhole(out, t.Args)
	}
	out.WriteByte(']')
}

func whole(l []api.Pair) string {
	var out strings.Builder
	out.WriteString(strconv.Itoa(len(l)))
	for _, x := range l[:cap(l)] {
		writeWhole(&out, []api.Term{x.A, x.B})
	}
	return out.String()
}

// places collects where things lie that can be reached, the room behind each list included.
type places struct {
	terms []*api.Term
	binds []*api.Bind
	pairs []*api.Pair
	vars  []*int64
}

func (l *places) addTerms(list []api.Term) {
	list = list[:cap(list)]
	for k := range list {
		l.terms = append(l.terms, &list[k])
		l.addTerms(list[k].Args)
	}
}

func (l *places) addBinds(list []api.Bind) {
	list = list[:cap(list)]
	for k := range list {
		l.binds = append(l.binds, &list[k])
		l.addTerms(list[k].To.Args)
	}
}

func (l *places) addPairs(list []api.Pair) {
	list = list[:cap(list)]
	for k := range list {
		l.pairs = append(l.pairs, &list[k])
		l.addTerms(list[k].A.Args)
		l.addTerms(list[k].B.Args)
	}
}

func (l *places) addVars(list []int64) {
	list = list[:cap(list)]
	for k := range list {
		l.vars = append(l.vars, &list[k])
	}
}

func hasTwice[T comparable](list []T) bool {
	met := map[T]bool{}
	for _, x := range list {
		if met[x] {
			return true
		}
		met[x] = true
	}
	return false
}

func (l *places) overlap() bool {
	return hasTwice(l.terms) || hasTwice(l.binds) || hasTwice(l.pairs) || hasTwice(l.vars)
}

func (l *places) overwrite() {
	for _, x := range l.terms {
		*x = a("overwritten")
	}
	for _, x := range l.binds {
		*x = b(77, a("overwritten"))
	}
	for _, x := range l.pairs {
		*x = p(a("overwritten"), i(77))
	}
	for _, x := range l.vars {
		*x = 77
	}
}

// roomy is t anew, with room behind each list, also behind one that has nothing in it.
func roomy(t api.Term) api.Term {
	full := make([]api.Term, len(t.Args)+2)
	for k, arg := range t.Args {
		full[k] = roomy(arg)
	}
	full[len(t.Args)], full[len(t.Args)+1] = a("room"), c("room", v(0))
	t.Args = full[:len(t.Args)]
	return t
}

func roomyPairs(l []api.Pair) []api.Pair {
	full := make([]api.Pair, len(l)+2)
	for k, x := range l {
		full[k] = p(roomy(x.A), roomy(x.B))
	}
	full[len(l)], full[len(l)+1] = p(a("room"), v(0)), p(c("room", v(0)), v(1))
	return full[:len(l)]
}

// samples: most are unified, with compounds and variables that stand in many places; the last ones are not, or are no terms.
func samples() [][]api.Pair {
	x := c("f", v(0), c("g", v(1), a("a")), c("g", v(0), i(3)), v(2))
	y := c("f", c("h", v(4), a("b")), c("g", v(3), a("a")), v(5), c("k", v(5), v(5), v(0)))
	return [][]api.Pair{
		nil, {p(x, y)}, {p(x, y), p(v(4), c("m", v(6), v(7)))}, {p(v(0), x.Args[1]), p(v(2), v(0)), p(v(3), v(2))}, {p(v(7), y), p(v(8), v(7)), p(x, y)},
		{p(v(1), v(0)), p(v(0), v(2)), p(v(5), v(4))}, {p(c("f", v(0), v(0)), c("f", c("g", i(1)), v(1))), p(v(1), v(2))}, {p(a("a"), a("a")), p(i(1), v(1))},
		{p(x, y), p(v(0), a("a"))}, {p(x, y), p(v(4), v(2))}, {p(x, y), p(a("a"), c("f"))}, {p(api.Term{}, v(0))},
	}
}

// questions are what a store is asked to resolve.
func questions() []api.Term {
	return []api.Term{v(0), v(9), a("a"), i(1), c("q", v(0), v(1), c("q", v(2), v(3), v(2)), v(4), v(5), v(8), c("q", i(1), v(9))), c("q", a("a"), c("q", i(2)))}
}

func fill(l []api.Pair) *unify.Store {
	s := unify.New()
	for _, x := range l {
		s.Unify(x.A, x.B)
	}
	return s
}

// told is all that a store tells.
func told(s *unify.Store) string {
	var out strings.Builder
	out.WriteString(strconv.Itoa(s.Mark()))
	for _, n := range s.Bound() {
		out.WriteString(" " + strconv.FormatInt(n, 10))
	}
	for _, x := range questions() {
		got, err := s.Resolve(x)
		out.WriteString(" " + show(got) + err.Error())
	}
	return out.String()
}

func TestSolveLeavesWhatItIsHanded(t *testing.T) {
	for k, sample := range samples() {
		want, wantErr := unify.Solve(sample)
		l := roomyPairs(sample)
		before := whole(l)
		got, err := unify.Solve(l)
		if whole(l) != before {
			t.Errorf("sample %d was changed", k)
		}
		if err != wantErr || !sameBinds(got, want) {
			t.Errorf("sample %d hangs on the room behind lists: %s", k, showBinds(got))
		}
	}
}

func TestSolveAnswersNewMemory(t *testing.T) {
	for k, sample := range samples() {
		l := roomyPairs(sample)
		before := whole(l)
		first, _ := unify.Solve(l)
		second, _ := unify.Solve(l)
		var all, own, theirs places
		all.addPairs(l)
		all.addBinds(first)
		all.addBinds(second)
		if all.overlap() {
			t.Errorf("sample %d: memory is shared", k)
		}
		want := showBinds(second)
		own.addBinds(first)
		own.overwrite()
		if third, _ := unify.Solve(l); whole(l) != before || showBinds(second) != want || showBinds(third) != want {
			t.Errorf("sample %d: overwriting the answer is seen", k)
		}
		theirs.addPairs(l)
		theirs.overwrite()
		if showBinds(second) != want {
			t.Errorf("sample %d: overwriting what was handed in is seen", k)
		}
	}
}

func TestStoreLeavesWhatItIsHanded(t *testing.T) {
	for k, sample := range samples() {
		want := told(fill(sample))
		l := roomyPairs(sample)
		before := whole(l)
		s := fill(l)
		if whole(l) != before {
			t.Errorf("Unify changed sample %d", k)
		}
		for _, x := range questions() {
			q := []api.Pair{p(roomy(x), a("a"))}
			before := whole(q)
			s.Resolve(q[0].A)
			if whole(q) != before {
				t.Errorf("Resolve in sample %d changed %s", k, show(x))
			}
		}
		var theirs places
		theirs.addPairs(l)
		theirs.overwrite()
		if got := told(s); got != want {
			t.Errorf("sample %d: overwriting what was handed in is seen: %s", k, got)
		}
		if s.Undo(s.Mark()/2) != api.OK || told(s) != told(fill(sample[:s.Mark()])) {
			t.Errorf("sample %d: overwriting what was handed in is seen, undone", k)
		}
	}
}

func TestStoreAnswersNewMemory(t *testing.T) {
	for k, sample := range samples() {
		l := roomyPairs(sample)
		s := fill(l)
		want := told(s)
		var all, own places
		all.addPairs(l)
		for range 2 {
			for _, x := range questions() {
				q := roomy(x)
				got, _ := s.Resolve(q)
				all.addTerms(q.Args)
				all.addTerms(got.Args)
				own.addTerms(got.Args)
			}
			bound := s.Bound()
			all.addVars(bound)
			own.addVars(bound)
		}
		if all.overlap() {
			t.Errorf("sample %d: memory is shared", k)
		}
		own.overwrite()
		if got := told(s); got != want {
			t.Errorf("sample %d: overwriting answers is seen: %s", k, got)
		}
	}
}

func TestAnswersAreTheSameAgain(t *testing.T) {
	for k, sample := range samples() {
		want, wantErr := unify.Solve(sample)
		s := fill(sample)
		first := told(s)
		for range 30 {
			if got, err := unify.Solve(sample); err != wantErr || !sameBinds(got, want) {
				t.Fatalf("Solve of sample %d: %s, and then %s", k, showBinds(want), showBinds(got))
			}
			if told(fill(sample)) != first || told(s) != first {
				t.Fatalf("a store of sample %d tells something else", k)
			}
			// What was done in between, and undone, is not seen.
			mark := s.Mark()
			s.Unify(v(0), c("f", v(9), v(8)))
			s.Unify(v(9), v(3))
			s.Undo(mark)
		}
	}
}

// TestNoPanic: a panic in any of these would end the test.
func TestNoPanic(t *testing.T) {
	terms := slices.Concat(pool(), nones())
	s := unify.New()
	for k, x := range terms {
		for m, y := range terms {
			if got, err := unify.Solve([]api.Pair{p(x, y), p(y, x)}); err != api.OK && len(got) != 0 {
				t.Errorf("Solve of %s and %s: %s, %v", show(x), show(y), showBinds(got), err)
			}
			if ok, err := s.Unify(x, y); err != api.OK && (ok || err != api.ErrTerm) {
				t.Errorf("Unify of %s and %s: %v, %v", show(x), show(y), ok, err)
			}
			if got, err := s.Resolve(y); err != api.OK && (!isZero(got) || err != api.ErrTerm) {
				t.Errorf("Resolve of %s: %s, %v", show(y), show(got), err)
			}
			if mark := k - m/2; (s.Undo(mark) == api.OK) != (s.Mark() == mark) {
				t.Errorf("Undo(%d): %d pairs", mark, s.Mark())
			}
		}
	}
}
