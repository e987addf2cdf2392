package solve_test

import (
	"slices"
	"strconv"
	"strings"
	"testing"

	"hornbook/api"
	"hornbook/base"
	"hornbook/solve"
)

// writeWhole writes all that can be reached from a list of terms, the room behind each list included.
func writeWhole(out *strings.Builder, l []api.Term) {
	out.WriteString(strconv.Itoa(len(l)))
	out.WriteByte('[')
	for _, t := range l[:cap(l)] {
		for _, n := range []int64{int64(t.Kind), t.N} {
			out.WriteString(strconv.FormatInt(n, 10))
			out.WriteByte(' ')
		}
		out.WriteString(strconv.Quote(t.Name))
		writeWhole(out, t.Args)
	}
	out.WriteByte(']')
}

func whole(l ...api.Term) string {
	var out strings.Builder
	writeWhole(&out, l)
	return out.String()
}

// roomy is t anew, with room behind each list, also behind one that has nothing in it.
func roomy(t api.Term) api.Term {
	full := make([]api.Term, len(t.Args)+2)
	for k, arg := range t.Args {
		full[k] = roomy(arg)
	}
	full[len(t.Args)], full[len(t.Args)+1] = a("room"), c("room", v(0))
	t.Args = full[:len(t.Args)]
	return t
}

// places collects where terms lie that can be reached, the room behind each list included.
type places []*api.Term

func (l *places) add(t api.Term) {
	args := t.Args[:cap(t.Args)]
	for k := range args {
		*l = append(*l, &args[k])
		l.add(args[k])
	}
}

func (l *places) overlap() bool {
	met := map[*api.Term]bool{}
	for _, x := range *l {
		if met[x] {
			return true
		}
		met[x] = true
	}
	return false
}

func (l *places) overwrite() {
	for _, x := range *l {
		*x = a("overwritten")
	}
}

const program = `
app([],X,X). app([X|Y],Z,[X|W]) :- app(Y,Z,W).
p(f(1,[a,b])). p(f(X,[X|Y])). p(g(X)) :- p(X), X = f(1,_).
ball :- throw(f(X,g(Y,[X,Y,b]),h(1))).
`

// queries: their outcomes have compounds and variables in many places, that come of the query, of clauses, and of what was made.
func queries(t *testing.T) []api.Term {
	var l []api.Term
	for _, s := range []string{
		"app(X,Y,[f(A),g(B,A),[c]])", "p(X), copy_term(X,Y)", "p(X), p(Y), X = Y", "ball", "catch(ball,f(A,B,C),p(X))", "findall(X-Z,p(X),L), L = [A|B]", "p(X), throw(k(X,X,Y))",
		"f(X,h(Y)) = f(Y,Z), assertz(k(X,Z)), k(A,B), retract(k(C,D))", "T =.. [f,g(a),X], functor(U,f,3), arg(1,T,V)", "p(X), print(X), fail", "sort([f(b),f(a)],L), atom_chars(abc,K)", "X", "nope(f(X))", "p(f(1,X)) ; p(g(X))",
	} {
		l = append(l, read(t, s))
	}
	x := chance(77)
	for range 60 {
		l = append(l, c(",", x.goal(2), x.goal(2)))
	}
	return l
}

// all gives the outcomes of a query, and then one more.
func all(b *base.Base, query api.Term) []api.Outcome {
	s, err := solve.New(b, query)
	if err != api.OK {
		return nil
	}
	var l []api.Outcome
	for range 6 {
		l = append(l, s.Next(60))
	}
	return l
}

func showAll(l []api.Outcome) string {
	out := ""
	for _, o := range l {
		out += showOutcome(o) + "\n"
	}
	return out
}

func TestNothingIsChanged(t *testing.T) {
	for _, q := range slices.Concat(queries(t), nones()) {
		want := showAll(all(filled(t, program), q))
		own := roomy(q)
		before := whole(own)
		if got := showAll(all(filled(t, program), own)); got != want {
			t.Errorf("%s: what is told hangs on the room behind lists: %s", show(q), got)
		}
		if whole(own) != before {
			t.Errorf("%s was changed", show(q))
		}
	}
}

func TestNothingIsKeptOfTheQuery(t *testing.T) {
	for _, q := range queries(t) {
		want := showAll(all(filled(t, program), q))
		for first := range 3 {
			// It is overwritten ahead of the first outcome, behind it, and behind the second.
			own := roomy(q)
			s, err := solve.New(filled(t, program), own)
			if err != api.OK {
				continue
			}
			var l []api.Outcome
			for k := range 6 {
				if k == first {
					var theirs places
					theirs.add(own)
					theirs.overwrite()
				}
				l = append(l, s.Next(60))
			}
			if got := showAll(l); got != want {
				t.Errorf("%s: overwriting the query is seen: %s", show(q), got)
			}
		}
	}
}

func TestOutcomesAreNewMemory(t *testing.T) {
	for _, q := range queries(t) {
		b, own := filled(t, program), roomy(q)
		before := whole(own)
		var memory places
		memory.add(own)
		for _, id := range b.All() {
			x, _ := b.Get(id)
			memory.add(x.Head)
			memory.add(x.Body)
		}
		first, second := all(b, own), all(b, own)
		for _, o := range slices.Concat(first, second) {
			memory.add(o.Term)
			memory.add(o.Ball)
		}
		if memory.overlap() {
			t.Errorf("%s: memory is shared", show(q))
		}
		if whole(own) != before {
			t.Errorf("%s was changed", show(q))
		}
	}
}

func TestOverwritingOutcomesIsNotSeen(t *testing.T) {
	for _, q := range queries(t) {
		left, b := filled(t, program), filled(t, program)
		want := showAll(all(left, q))
		s, err := solve.New(b, q)
		if err != api.OK {
			continue
		}
		before, got := whole(q), ""
		for range 6 {
			o := s.Next(60)
			got += showOutcome(o) + "\n"
			var own places
			own.add(o.Term)
			own.add(o.Ball)
			own.overwrite()
		}
		if got != want || whole(q) != before || clausesOf(t, b) != clausesOf(t, left) {
			t.Errorf("%s: overwriting outcomes is seen: %s", show(q), got)
		}
	}
}

// TestSameAgain: what is told hangs on nothing but what was done.
func TestSameAgain(t *testing.T) {
	for _, q := range queries(t) {
		want := showAll(all(filled(t, program), q))
		for range 10 {
			if got := showAll(all(filled(t, program), q)); got != want {
				t.Fatalf("%s: %s and then %s", show(q), want, got)
			}
		}
	}
}

// TestZeroBeside: what is not said of an outcome is zero.
func TestZeroBeside(t *testing.T) {
	for _, q := range queries(t) {
		for _, o := range all(filled(t, program), q) {
			if isZero(o.Term) != (o.Kind != api.Answer) || isZero(o.Ball) != (o.Kind != api.Thrown) || o.Steps < 0 || o.Steps > 60 {
				t.Errorf("%s: %s", show(q), showOutcome(o))
			}
		}
	}
}

// TestNoPanic: a panic in any of these would end the test.
func TestNoPanic(t *testing.T) {
	b := filled(t, program)
	odd := []api.Term{v(0), v(1), i(0), i(-1), i(3), i(least), i(greatest), a("a"), a(""), a("[]"), c("f", v(0)), c(".", a("a"), v(0)), list(v(0), i(1)), list(a("a"), a("b")), c(":-", v(0), v(1)), c(":-", a("k"), i(1)), c("+", i(greatest), i(1))}
	for _, s := range strings.Fields("\\+/1 call/1 call/2 call/3 catch/3 throw/1 findall/3 =/2 \\=/2 ==/2 \\==/2 @</2 @>/2 @=</2 @>=/2 compare/3 var/1 nonvar/1 atom/1 integer/1 atomic/1 compound/1 callable/1 ground/1 functor/3 arg/3 =../2 copy_term/2 is/2 =:=/2 =\\=/2 </2 >/2 =</2 >=/2 between/3 atom_length/2 atom_chars/2 length/2 sort/2 assertz/1 asserta/1 retract/1 print/1 :-/1 :-/2 -->/2 ,/2 ;/2 ->/2") {
		name, n := s[:strings.LastIndexByte(s, '/')], int(s[len(s)-1]-'0')
		for k := range len(odd) * len(odd) * len(odd) {
			args := []api.Term{odd[k%len(odd)], odd[k/len(odd)%len(odd)], odd[k/len(odd)/len(odd)]}
			if n < 3 && k >= len(odd)*len(odd) || n < 2 && k >= len(odd) {
				break
			}
			own, theirs := base.New(), base.New()
			s, err := solve.New(own, c(name, args[:n]...))
			m, wantErr := newMeaning(theirs, c(name, args[:n]...))
			if err != wantErr {
				t.Fatalf("%s of %v: %v", name, args[:n], err)
			}
			if err != api.OK {
				continue
			}
			for range 4 {
				got, want := s.Next(9), m.next(9)
				if showOutcome(got) != showOutcome(want) {
					t.Fatalf("%s: %s, not %s", show(c(name, args[:n]...)), showOutcome(got), showOutcome(want))
				}
			}
		}
	}
	for _, steps := range []int{least, -1, 0, 1, 1000} {
		for _, q := range queries(t) {
			if s, err := solve.New(b, q); err == api.OK {
				for range 5 {
					s.Next(steps)
				}
			}
		}
	}
	if o := search(t, b, "app(X,Y,[a,b])").Next(greatest); o.Kind != api.Answer {
		t.Error(showOutcome(o))
	}
}
