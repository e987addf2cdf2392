package compile_test

import (
	"testing"

	"hornbook/api"
	"hornbook/compile"
	"hornbook/machine"
)

// vars is the variables from one number up to another.
func vars(from, to int) []api.Term {
	var l []api.Term
	for k := from; k < to; k++ {
		l = append(l, v(int64(k)))
	}
	return l
}

// listOf is a list of terms.
func listOf(l []api.Term) api.Term {
	t := a("[]")
	for k := len(l) - 1; k >= 0; k-- {
		t = c(".", l[k], t)
	}
	return t
}

// nested is a body within so many control goals, each made by some of these, by turns.
func nested(body api.Term, deep int, by ...func(api.Term) api.Term) api.Term {
	for k := range deep {
		body = by[k%len(by)](body)
	}
	return body
}

func negated(t api.Term) api.Term { return c("\\+", t) }
func asked(t api.Term) api.Term   { return c("->", t, a("true")) }
func tried(t api.Term) api.Term   { return c(";", t, a("fail")) }
func cutOff(t api.Term) api.Term  { return c("->", c(",", t, a("!")), a("true")) }
func refused(t api.Term) api.Term { return c("\\+", c(",", c("\\+", t), a("!"))) }

// TestMostThatMustBe: what has as much as the document names is compiled, and does what it means.
func TestMostThatMustBe(t *testing.T) {
	const most, controls = 100, 40
	q := program(t, "q([1|_]). q([X|Y]) :- X = 2, q(Y). q([]).")
	all := listOf(vars(0, most))
	for _, x := range []struct {
		by   []func(api.Term) api.Term
		deep int
	}{
		{[]func(api.Term) api.Term{negated}, controls}, {[]func(api.Term) api.Term{asked}, controls}, {[]func(api.Term) api.Term{tried}, controls},
		{[]func(api.Term) api.Term{cutOff}, controls / 2}, {[]func(api.Term) api.Term{refused}, controls / 3}, {[]func(api.Term) api.Term{asked, negated, tried, negated}, controls},
	} {
		body := nested(c("q", all), x.deep, x.by...)
		inner := append(append([]api.Clause(nil), q...), made(t, c(":-", c("p", all, v(most)), body)), made(t, c("p", v(0), i(7))))
		held(t, inner, read(t, "p(X,Y)"), 5000, 120)
		held(t, inner, read(t, "p([2,2|X],7)"), 5000, 120)
		// The same with all goals in a row, and of a query.
		row := []api.Term{c("q", all)}
		for range x.deep {
			row = append(row, x.by[len(row)%len(x.by)](c("=", v(int64(len(row))), i(int64(len(row))))))
		}
		inner[len(q)] = made(t, c(":-", c("p", all, v(most)), joined(row)))
		held(t, inner, read(t, "p(X,Y)"), 5000, 120)
		held(t, q, nested(c("q", listOf(vars(3, 3+api.MaxArity))), x.deep, x.by...), 5000, 60)
	}
}

// TestAllArgs: a predicate of MaxArity Args, and compounds of as many.
func TestAllArgs(t *testing.T) {
	turned := vars(0, api.MaxArity)
	for k := range turned {
		turned[k] = v(int64((k + 1) % api.MaxArity))
	}
	l := []api.Clause{
		made(t, c(":-", c("p", vars(0, api.MaxArity)...), joined([]api.Term{c("=", v(0), i(0)), c("p", turned...)}))),
		made(t, c("p", c("f", vars(0, api.MaxArity)...), c("f", turned...))),
		made(t, c(":-", c("p", vars(0, 2)...), c("p", c("f", turned...), v(0)))),
	}
	held(t, l, c("p", vars(1, 1+api.MaxArity)...), 3000, 5)
	held(t, l, c("p", vars(1, 3)...), 3000, 3)
	held(t, l, c(",", c("p", vars(1, 3)...), c("=", v(1), c("f", vars(3, 1+api.MaxArity)...))), 300, 3)
}

// shapes are programs of many clauses, each made of the numbers from 0 on.
func shapes() map[string]func(k int) api.Term {
	return map[string]func(k int) api.Term{
		"facts":              func(int) api.Term { return a("p") },
		"numbers":            func(k int) api.Term { return c("p", i(int64(k))) },
		"variables ahead":    func(k int) api.Term { return c("p", pick(new(chance(k)), v(0), i(int64(k)))) },
		"one variable ahead": func(k int) api.Term { return c("p", [2]api.Term{v(0), i(int64(k))}[min(k, 1)]) },
		"compounds":          func(k int) api.Term { return c("p", c("f", i(int64(k)))) },
		"cuts":               func(k int) api.Term { return c(":-", c("p", i(int64(k/2))), a("!")) },
		"negations":          func(k int) api.Term { return c(":-", c("p", i(int64(-k))), c("\\+", a("!"))) },
		"conditions":         func(k int) api.Term { return c(":-", c("p", i(int64(k))), c("->", a("true"), a("true"))) },
		"branches":           func(k int) api.Term { return c(":-", c("p", v(0)), c(";", c(",", a("!"), a("fail")), a("true"))) },
		"calls":              func(k int) api.Term { return c(":-", c("p", i(int64(k))), c("p", i(int64(k+1)))) },
	}
}

// TestFourThousandParts: as many must be compiled, whatever they are.
func TestFourThousandParts(t *testing.T) {
	const most = 4000
	for name, clause := range shapes() {
		query := c("p", v(0))
		if name == "facts" {
			query = a("p")
		}
		var l []api.Clause
		for {
			more := append(l, made(t, clause(len(l))))
			if size(more, query) > most {
				break
			}
			l = more
		}
		held(t, l, query, 5000, 50)
		held(t, l, c(",", c("p", i(3)), c("p", i(int64(len(l)-1)))), 5000, 50)
	}
}

// TestBeyond: what is larger still is compiled as it must be, or refused; and refused where it can't be.
func TestBeyond(t *testing.T) {
	met := map[api.Errno]int{}
	try := func(l []api.Clause, query api.Term) {
		t.Helper()
		got, err := compile.Compile(l, query)
		met[err]++
		switch err {
		case api.OK:
			if err := machine.Check(got); err != api.OK {
				t.Error(err)
			}
			held(t, l, query, 500, 5)
		case api.ErrLarge:
			if !isZero(got) {
				t.Error("there is code beside an error")
			}
		default:
			t.Error(err)
		}
	}
	for n := 90; n < 300; n++ {
		if n%5 > 0 && (n < api.MaxSlots-5 || n > api.MaxSlots+5) {
			continue
		}
		try([]api.Clause{made(t, c(":-", c("p", listOf(vars(0, n))), c("=", listOf(vars(0, n)), v(int64(n)))))}, c("p", v(0)))
		try([]api.Clause{made(t, c("p", listOf(vars(0, n))))}, c("p", v(0)))
		for _, by := range []func(api.Term) api.Term{negated, asked, tried, cutOff} {
			try(nil, nested(a("true"), n, by))
			try(nil, c(",", nested(a("true"), n, by), c(";", negated(a("fail")), a("!"))))
			try([]api.Clause{made(t, c(":-", c("p", v(0)), nested(c("=", v(0), v(0)), n, by)))}, c("p", a("b")))
		}
	}
	// Code of as many instructions as there may be, and of more.
	for _, n := range []int{49999, 50000} {
		half := make([]api.Term, n)
		for k := range half {
			half[k] = a("nl")
		}
		try(nil, c(",", joined(half), joined(half)))
		try(nil, c(",", joined(half), c(",", a("nl"), joined(half))))
	}
	if met[api.OK] < 100 || met[api.ErrLarge] < 100 {
		t.Error(met)
	}
	for name, clause := range shapes() {
		var l []api.Clause
		for k := range 60000 {
			l = append(l, made(t, clause(k)))
		}
		if got, err := compile.Compile(l, a("p")); err != api.ErrLarge || !isZero(got) {
			t.Error(name, err)
		}
	}
}

// TestDeep: bodies and terms as deep as the document bounds.
func TestDeep(t *testing.T) {
	const deepest = 1 << 16
	data := a("a")
	for range deepest - 2 {
		data = c("f", data)
	}
	held(t, program(t, "p(X) :- q(X,X). q(f(X),f(X)). q(X,Y) :- X = f(f(Y))."), c("p", data), 100, 5)
	l := []api.Clause{made(t, c("p", data)), made(t, c("p", v(0)))}
	held(t, l, read(t, "p(X)"), 100, 5)
	held(t, l, read(t, "p(f(X))"), 100, 5)
	for _, by := range [][]func(api.Term) api.Term{
		{negated}, {asked}, {tried}, {refused}, {asked, negated, tried},
		{func(t api.Term) api.Term { return c(",", t, a("true")) }}, {func(t api.Term) api.Term { return c(",", a("true"), t) }}, {func(t api.Term) api.Term { return c(";", a("fail"), t) }}, {func(t api.Term) api.Term { return c("->", a("true"), t) }},
	} {
		deep := deepest / 2
		body := nested(a("a"), deep, by...)
		for _, l := range [][]api.Clause{{made(t, a("a"))}, {made(t, a("a")), made(t, c(":-", a("p"), body))}} {
			got, err := compile.Compile(l, body)
			if err != api.OK && err != api.ErrLarge || isZero(got) != (err != api.OK) {
				t.Error(err)
			}
			if err == api.OK {
				held(t, l, body, 4*deep, 2)
			}
		}
		bad := nested(v(0), deep, by...)
		if _, err := compile.Compile(nil, bad); err != api.ErrKind {
			t.Error(err)
		}
	}
}
