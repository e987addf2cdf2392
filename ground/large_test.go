package ground_test

import (
	"math/bits"
	"runtime"
	"strconv"
	"testing"

	"hornbook/api"
)

// most parts may be nested in one another, by the document.
const most = 1 << 16

// nested is core with around about it, so often.
func nested(n int, core api.Term, around func(t api.Term) api.Term) api.Term {
	t := core
	for range n {
		t = around(t)
	}
	return t
}

// balanced is the body of some goals, joined so that it is nested as little as can be.
func balanced(l []api.Term) api.Term {
	if len(l) == 1 {
		return l[0]
	}
	return c(",", balanced(l[:len(l)/2]), balanced(l[len(l)/2:]))
}

// held are the shapes of clauses, which must be those.
func held(t *testing.T, want string, l []api.Clause) {
	t.Helper()
	if got := showShapes(shapes(t, l)); got != want {
		t.Errorf("%s, not %s", got, want)
	}
}

// TestDeepBodies: the last goal counts, and the least fault is found, however deep they are.
func TestDeepBodies(t *testing.T) {
	for name, around := range map[string]func(t api.Term) api.Term{
		"right": func(x api.Term) api.Term { return c(",", c("p", v(0)), x) },
		"left":  func(x api.Term) api.Term { return c(",", x, c("p", v(0))) },
		"both":  func(x api.Term) api.Term { return c(",", a("true"), c(",", x, c("p", v(0)))) },
	} {
		n := most - 4
		if name == "both" {
			n /= 2
		}
		l := []api.Clause{rule(c("h", v(0), v(1)), nested(n, c("q", v(1)), around)), fact(c("p", v(0))), fact(c("q", a("a")))}
		held(t, "p/1: 0 1; q/1: 1; h/2: 2 3", l)
		for want, core := range map[api.Errno]api.Term{api.ErrTerm: {}, api.ErrClause: i(3), api.ErrKind: a("!"), api.ErrLarge: of("p", 9)} {
			l[0].Body = nested(n, core, around)
			check(t, want, l...)
		}
	}
}

// TestDeepTerms: a variable counts, however deep it is.
func TestDeepTerms(t *testing.T) {
	around := func(x api.Term) api.Term { return c("s", a("a"), x, i(1)) }
	nest := func(x api.Term) api.Term { return nested(most-4, x, around) }
	held(t, "h/1: 0 1; p/1: 1; q/1: 0 1; r/1: 1", []api.Clause{fact(c("p", nest(a("a")))), fact(c("q", nest(v(0)))), rule(c("h", v(0)), c("q", nest(v(0)))), rule(c("r", v(0)), c("p", nest(v(0))))})
	check(t, api.ErrLarge, fact(c("p", c("f", vars(10)...), nest(v(10)))))
	check(t, api.ErrTerm, fact(c("p", nest(api.Term{}))))
}

// TestManyPredicates: each leans on the next one, whatever their order is; at last on none, on the first, or on a fact.
func TestManyPredicates(t *testing.T) {
	const n = 30000
	name := func(k int) string { return "p" + strconv.Itoa(k) }
	for _, x := range []struct {
		last api.Clause
		rows int // of each
	}{{fact(c("q", a("a"))), 0}, {rule(c(name(n), v(0), v(1)), c(name(0), v(0), v(1))), 0}, {fact(c(name(n), a("a"), a("a"))), 1}, {fact(c(name(n), a("a"), v(0))), 3}, {fact(c(name(n), v(0), v(1))), 4}} {
		var l []api.Clause
		for at := range n {
			k := at * 7919 % n
			l = append(l, rule(c(name(k), v(0), v(1)), c(name(k+1), v(1), v(0))), rule(c(name(k), v(0), v(1)), c(name(k+1), v(0), v(1))))
		}
		count := 0
		for _, shape := range shapes(t, append(l, x.last)) {
			if shape.N == 2 && shape.Name != name(n) && len(shape.Rows) == x.rows {
				count++
			}
		}
		if count != n {
			t.Error(show(x.last.Head), count)
		}
	}
}

// TestManyClauses: facts, and rules with the same goals, and others that nothing comes of.
func TestManyClauses(t *testing.T) {
	const n = 100000
	var l []api.Clause
	for k := range n {
		l = append(l, fact(c("e", i(int64(k)), i(int64(k+1)))), rule(c("t", v(0), v(1)), c(",", c("e", v(0), i(int64(k))), c("t", v(1), v(2)))), rule(c("u", v(0)), c("t", v(0), v(0))))
	}
	held(t, "u/1:; e/2: 3; t/2:", l)
	l = append(l, fact(c("t", v(0), a("a"))))
	held(t, "u/1: 1; e/2: 3; t/2: 1 2 3", l)
}

// turned is a program whose predicate p has eight Args: so many are ground and the others not, or all are. Which ones are
// is turned about one step at a time, so that each row comes of few others.
func turned(t *testing.T, ground int) []api.Clause {
	first, all := make([]api.Term, 8), vars(8)
	for k := range first {
		first[k] = v(0)
		if k < ground {
			first[k] = a("a")
		}
	}
	swapped := append([]api.Term{all[1], all[0]}, all[2:]...)
	round := append(vars(8)[1:], all[0])
	return []api.Clause{made(t, c("p", round...), c("p", all...)), made(t, c("p", first...)), made(t, c("p", swapped...), c("p", all...))}
}

// numbersOf the rows of eight Args of which so many at least, and so many at most, are ground, and of the one in which all are.
func numbersOf(from, to int) string {
	out := ""
	for row := range 256 {
		if n := bits.OnesCount(uint(row)); n >= from && n <= to || n == 8 {
			out += " " + strconv.Itoa(row)
		}
	}
	return out
}

// TestRowsOfRows: those that take many steps.
func TestRowsOfRows(t *testing.T) {
	for ground := range 9 {
		l := turned(t, ground)
		held(t, "p/8:"+numbersOf(ground, ground), l)
		// An Arg that leans on another one as well may be no more ground.
		less := append([]api.Term{c("f", v(0), v(1))}, vars(8)[1:]...)
		l = append(l, made(t, c("p", less...), c("p", vars(8)...)))
		want := numbersOf(0, ground)
		if ground == 8 {
			want = " 255"
		}
		held(t, "p/8:"+want, l)
	}
}

// TestManyRows: rules with as many variables as there may be, of which some wait for rows that are found one by one, and some for each other.
func TestManyRows(t *testing.T) {
	const n = 1000
	l := turned(t, 4)
	ten := vars(10)
	// Each of the goals leaves out two variables, and each its own.
	goals := func(k int) []api.Term {
		return []api.Term{c("p", ten[:8]...), c("q"+strconv.Itoa(k), ten[2:]...), c("p", ten[1:9]...)}
	}
	for k := range n {
		l = append(l, made(t, c("q"+strconv.Itoa(k+1), ten[1:9]...), goals(k)...))
	}
	l = append(l, made(t, c("q0", ten[:8]...), c("p", ten[:8]...)))
	want, _ := naiveAnalyse(append(l[:6:6], l[len(l)-1]))
	rows := map[string]string{}
	for _, shape := range want {
		rows[shape.Name] = showShapes([]api.Shape{shape})
	}
	got := shapes(t, l)
	if len(got) != n+2 {
		t.Fatal(len(got))
	}
	for _, shape := range got {
		if some, is := rows[shape.Name]; is && showShapes([]api.Shape{shape}) != some {
			t.Errorf("%s, not %s", showShapes([]api.Shape{shape}), some)
		}
		if len(shape.Rows) == 0 {
			t.Error(shape.Name)
		}
	}
}

// TestManyGoals: a body that is as long as may be, and longer where it is joined otherwise.
func TestManyGoals(t *testing.T) {
	for _, n := range []int{1000, most - 4, 1 << 17} {
		goals := make([]api.Term, n)
		for k := range goals {
			goals[k] = c("p", v(int64(k%10)), v(int64((k+1)%10)), c("f", v(int64((k+2)%10)), v(int64((k+5)%10))))
		}
		join := joined
		if n > most {
			join = func(l ...api.Term) api.Term { return balanced(l) }
		}
		x := rule(c("h", vars(8)...), join(goals...))
		held(t, "p/3: 0 1 2 3 4 5 6 7; h/8:"+numbersOf(0, 8), []api.Clause{x, fact(c("p", vars(3)...))})
		held(t, "p/3: 7; h/8: 255", []api.Clause{x, fact(of("p", 3))})
		held(t, "p/3: 0 7; h/8: 0 255", []api.Clause{x, fact(c("p", v(0), v(0), v(0)))})
		held(t, "q/1:; p/3:; h/8:", []api.Clause{x, made(t, c("p", vars(3)...), c("q", v(0)))})
	}
}

// TestMemory: rules with as many variables as may be, of which nothing comes, take no more room than their size asks for.
func TestMemory(t *testing.T) {
	const n = 20000
	var l []api.Clause
	for k := range n {
		ten := vars(10)
		l = append(l, made(t, c("h", ten[:8]...), c("p", ten[:8]...), c("q"+strconv.Itoa(k), ten[2:]...)))
	}
	l = append(l, fact(c("p", vars(8)...)))
	var before, after runtime.MemStats
	runtime.GC()
	runtime.ReadMemStats(&before)
	got := shapes(t, l)
	runtime.ReadMemStats(&after)
	if len(got) != n+2 || len(got[n].Rows) != 0 || after.TotalAlloc-before.TotalAlloc > 1<<28 {
		t.Error(len(got), (after.TotalAlloc-before.TotalAlloc)>>20)
	}
}
