package ground_test

import (
	"slices"
	"strconv"
	"testing"

	"hornbook/api"
	"hornbook/base"
	"hornbook/ground"
	"hornbook/model"
	"hornbook/proof"
	"hornbook/solve"
	"hornbook/term"
)

// data is a term that goals are about.
func (x *chance) data(vars, deep int) api.Term {
	switch k := x.below(10); {
	case k < 7 && vars > 0:
		return v(int64(x.below(vars)))
	case k < 8 || deep == 0:
		return pick(x, a("a"), a("b"), i(1))
	case k == 8:
		return c("f", x.data(vars, deep-1))
	}
	return c("g", x.data(vars, deep-1), x.data(vars, deep-1))
}

// atom is of one of few predicates, with at most so many Args.
func (x *chance) atom(vars, most int) api.Term {
	args := min(most, pick(x, 0, 1, 1, 1, 2, 2, 2, 2, 3, 3, 4, 8))
	if args == 0 {
		return a(pick(x, "p", "q"))
	}
	l := make([]api.Term, args)
	for k := range l {
		l[k] = x.data(vars, 2)
	}
	return c(pick(x, "p", "p", "q"), l...)
}

// body of goals, joined in some way, and now and then a `true` among them.
func (x *chance) body(l []api.Term) api.Term {
	if x.below(9) == 0 {
		return pick(x, c(",", a("true"), x.body(l)), c(",", x.body(l), a("true")))
	}
	switch len(l) {
	case 0:
		return a("true")
	case 1:
		return l[0]
	}
	k := 1 + x.below(len(l)-1)
	return c(",", x.body(l[:k]), x.body(l[k:]))
}

// clause has at most ten variables.
func (x *chance) clause(goals, vars, most int) api.Clause {
	var l []api.Term
	for range goals {
		l = append(l, x.atom(vars, most))
	}
	made, err := base.Make(c(":-", x.atom(vars, most), x.body(l)))
	if err != api.OK {
		panic(err)
	}
	return made
}

// program has predicates with at most so many Args.
func (x *chance) program(most int) []api.Clause {
	var l []api.Clause
	for range 1 + x.below(pick(x, 3, 5, 9)) {
		l = append(l, x.clause(0, pick(x, 0, 0, 1, 2, 3, 10), most))
	}
	for range 1 + x.below(pick(x, 3, 7, 12, 20)) {
		l = append(l, x.clause(pick(x, 1, 1, 2, 2, 3, 4), pick(x, 1, 2, 2, 3, 3, 4, 6, 10), most))
	}
	turned := make([]api.Clause, len(l))
	for k, at := range x.order(len(l)) {
		turned[k] = l[at]
	}
	return turned
}

// TestAnalyseByChance holds the call against the document, word by word.
func TestAnalyseByChance(t *testing.T) {
	t.Parallel()
	x := chance(51)
	some, all, empty := 0, 0, 0
	for round := range 8000 {
		l := x.program(pick(&x, 2, 3, 8))
		want, _ := naiveAnalyse(l)
		got, err := ground.Analyse(l)
		if err != api.OK || showShapes(got) != showShapes(want) {
			t.Fatalf("round %d: %s, %v, not %s of\n%s", round, showShapes(got), err, showShapes(want), showClauses(l))
		}
		for _, shape := range got {
			switch {
			case len(shape.Rows) == 0:
				empty++
			case len(shape.Rows) == 1<<shape.N:
				all++
			default:
				some++
			}
		}
	}
	if some < 10000 || all < 10000 || empty < 10000 {
		t.Error(some, all, empty)
	}
}

// TestErrorsByChance: of clauses that have an error, or some, among others.
func TestErrorsByChance(t *testing.T) {
	t.Parallel()
	x := chance(52)
	kinds := map[api.Errno]int{}
	odd := [][]api.Clause{none, wrong, notPlain, large, large}
	for range 5000 {
		l := x.program(3)
		for range x.below(4) {
			own := odd[x.below(len(odd))]
			l = slices.Insert(l, x.below(len(l)+1), own[x.below(len(own))])
		}
		want, wantErr := naiveAnalyse(l)
		got, err := ground.Analyse(l)
		if err != wantErr || showShapes(got) != showShapes(want) || err != api.OK && got != nil {
			t.Fatalf("%s, %v, not %s, %v, of\n%s", showShapes(got), err, showShapes(want), wantErr, showClauses(l))
		}
		kinds[err]++
	}
	for _, err := range []api.Errno{api.OK, api.ErrTerm, api.ErrClause, api.ErrKind, api.ErrLarge} {
		if kinds[err] < 500 {
			t.Error(err, kinds)
		}
	}
}

// asFacts turns clauses into rules of a model, whose facts are the rows: 1 stands for what is ground, 0 for what is not.
// A goal has a new variable for each Arg, and in all/3 each is 1 just if both others are.
func asFacts(t *testing.T, l []api.Clause) []api.Clause {
	out := clauses(t, "is(0). is(1). all(0,0,0). all(0,0,1). all(0,1,0). all(1,1,1).")
	for _, x := range l {
		next := int64(len(varsOf(wholeOf(x))))
		var goals []api.Term
		for k := range next {
			goals = append(goals, c("is", v(k)))
		}
		var heads []api.Term
		for k, atom := range atomsOf(x) {
			args := []api.Term{a(atom.Name)}
			for _, arg := range atom.Args {
				whole := i(1)
				for _, n := range varsOf(arg) {
					goals = append(goals, c("all", v(next), v(n), whole))
					whole = v(next)
					next++
				}
				args = append(args, whole)
			}
			heads = append(heads, c("row", args...))
			if k > 0 {
				goals = append(goals, heads[k])
			}
		}
		out = append(out, made(t, heads[0], goals...))
	}
	return out
}

// TestAnalyseIsAModel: the rows are the facts of a model, which has no room for more or for less.
func TestAnalyseIsAModel(t *testing.T) {
	t.Parallel()
	x := chance(53)
	rows := 0
	for round := range 1500 {
		l := x.program(pick(&x, 2, 3, 8))
		facts, err := model.Model(asFacts(t, l))
		if err != api.OK {
			t.Fatal(err)
		}
		want := map[string][]int{}
		for _, fact := range facts {
			if fact.Name == "row" {
				row := 0
				for k, arg := range fact.Args[1:] {
					row |= int(arg.N) << k
				}
				name := fact.Args[0].Name + "/" + strconv.Itoa(len(fact.Args)-1)
				want[name] = append(want[name], row)
			}
		}
		for _, shape := range shapes(t, l) {
			name := shape.Name + "/" + strconv.Itoa(shape.N)
			slices.Sort(want[name])
			if !slices.Equal(shape.Rows, want[name]) {
				t.Fatalf("round %d: %s: %v, not %v, of\n%s", round, name, shape.Rows, want[name], showClauses(l))
			}
			rows += len(shape.Rows)
			delete(want, name)
		}
		if len(want) > 0 {
			t.Fatalf("round %d: %v of\n%s", round, want, showClauses(l))
		}
	}
	if rows < 10000 {
		t.Error(rows)
	}
}

// rowsOf a predicate.
func rowsOf(l []api.Shape, atom api.Term) []int {
	for _, shape := range l {
		if shape.Name == atom.Name && shape.N == len(atom.Args) {
			return shape.Rows
		}
	}
	return nil
}

func hasRow(l []api.Shape, atom api.Term) bool {
	return slices.Contains(rowsOf(l, atom), rowOf(atom, nil))
}

// match is some term that an atom matches.
func (x *chance) match(t *testing.T, atom api.Term) api.Term {
	var binds []api.Bind
	for _, n := range varsOf(atom) {
		binds = append(binds, api.Bind{Var: n, To: pick(x, a("a"), v(0), v(1), c("f", v(n)), c("g", a("b"), v(2)), c("g", a("b"), i(2)))})
	}
	slices.SortFunc(binds, func(p, q api.Bind) int { return int(p.Var - q.Var) })
	out, err := term.Apply(atom, binds)
	if err != api.OK {
		t.Fatal(err)
	}
	return out
}

// mostGeneral is the goal of a predicate with variables alone.
func mostGeneral(shape api.Shape) api.Term {
	if shape.N == 0 {
		return a(shape.Name)
	}
	return c(shape.Name, vars(shape.N)...)
}

// TestWhatIsShownHasRows: which Args of what a proof shows have no variables is a row of its predicate, and of each term that it matches.
func TestWhatIsShownHasRows(t *testing.T) {
	t.Parallel()
	x := chance(54)
	shown, deep := 0, 0
	for round := range 2500 {
		l := x.program(3)
		said := shapes(t, l)
		for _, shape := range said {
			proofs, err := proof.Find(l, mostGeneral(shape), 4, 20)
			if err != api.OK {
				t.Fatal(err)
			}
			for _, p := range proofs {
				got, err := proof.Shows(l, p.Tree)
				if err != api.OK {
					t.Fatal(err)
				}
				for _, atom := range []api.Term{got, p.Term, x.match(t, got), x.match(t, got), x.match(t, got)} {
					if !hasRow(said, atom) {
						t.Fatalf("round %d: %s, but %s of\n%s", round, show(atom), showShapes(said), showClauses(l))
					}
				}
				shown++
				if len(p.Tree.Kids) > 0 && len(rowsOf(said, got)) < 1<<shape.N {
					deep++
				}
			}
		}
	}
	if shown < 15000 || deep < 2000 {
		t.Error(shown, deep)
	}
}

// TestRowsAreShown: where no goal fails for another reason, each row is that of a term that what a proof shows matches.
func TestRowsAreShown(t *testing.T) {
	t.Parallel()
	x := chance(55)
	all, left := 0, 0
	for range 2000 {
		// Flat atoms with one constant: a choice of what is ground is one of what the variables are.
		var l []api.Clause
		for range 2 + x.below(8) {
			vars := pick(&x, 1, 2, 3)
			flat := func() api.Term {
				args := make([]api.Term, 1+x.below(3))
				for k := range args {
					args[k] = pick(&x, v(int64(x.below(vars))), v(int64(x.below(vars))), a("a"))
				}
				return c(pick(&x, "p", "q"), args...)
			}
			var goals []api.Term
			for range pick(&x, 0, 0, 1, 1, 2) {
				goals = append(goals, flat())
			}
			l = append(l, made(t, flat(), goals...))
		}
		for _, shape := range shapes(t, l) {
			met := map[int]bool{}
			for _, depth := range []int{3, 5, 8} {
				proofs, err := proof.Find(l, mostGeneral(shape), depth, 3000)
				if err != api.OK {
					t.Fatal(err)
				}
				for _, p := range proofs {
					for _, choice := range everyChoice(varsOf(p.Term)) {
						met[rowOf(p.Term, choice)] = true
					}
				}
			}
			for _, row := range shape.Rows {
				if !met[row] {
					left++
				}
			}
			all += len(shape.Rows)
		}
	}
	// What takes deeper proofs, or more of them, is little.
	if all < 10000 || left*1000 > all {
		t.Error(all, left)
	}
}

// TestAnswersAreGround: an Arg whose bit is 1 in all rows is ground in all answers of a search for a goal with variables alone.
func TestAnswersAreGround(t *testing.T) {
	t.Parallel()
	x := chance(56)
	answers, always := 0, 0
	for round := range 3000 {
		l := x.program(3)
		said := shapes(t, l)
		b := base.New()
		for _, own := range l {
			if _, err := b.Add(own, false); err != api.OK {
				t.Fatal(err)
			}
		}
		for _, shape := range said {
			search, err := solve.New(b, mostGeneral(shape))
			if err != api.OK {
				t.Fatal(err)
			}
			for range 10 {
				o := search.Next(300)
				if o.Kind != api.Answer {
					break
				}
				answers++
				for k, arg := range o.Term.Args {
					is := !slices.ContainsFunc(shape.Rows, func(row int) bool { return row>>k&1 == 0 })
					if is {
						always++
					}
					if is && len(varsOf(arg)) > 0 {
						t.Fatalf("round %d: %s, but %s of\n%s", round, show(o.Term), showShapes(said), showClauses(l))
					}
				}
				if !hasRow(said, o.Term) {
					t.Fatalf("round %d: %s, but %s of\n%s", round, show(o.Term), showShapes(said), showClauses(l))
				}
			}
		}
	}
	if answers < 10000 || always < 2000 {
		t.Error(answers, always)
	}
}
