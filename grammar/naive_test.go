package grammar_test

import (
	"hornbook/api"
)

// far is the first number of new variables while it is not known yet in which order they come.
const far = 1 << 50

// naive is the document's chapter, word by word; it counts new variables.
type naive int64

func (x *naive) fresh() api.Term {
	*x++
	return v(far + int64(*x))
}

func isOf(t api.Term, name string, args int) bool {
	return (t.Kind == api.Atom) == (args == 0) && (t.Kind == api.Atom || t.Kind == api.Comp) && t.Name == name && len(t.Args) == args
}

// goal of a body between s and r.
func (x *naive) goal(b, s, r api.Term) (api.Term, api.Errno) {
	equal := c("=", s, r)
	switch {
	case b.Kind == api.Var:
		return c("call", b, s, r), api.OK
	case b.Kind == api.Int:
		return api.Term{}, api.ErrKind
	case isOf(b, ",", 2), isOf(b, "->", 2):
		n := x.fresh()
		return x.two(b, s, n, n, r)
	case isOf(b, ";", 2):
		return x.two(b, s, r, s, r)
	case isOf(b, "\\+", 1):
		inner, err := x.goal(b.Args[0], s, x.fresh())
		return unless(err, c(",", c("\\+", inner), equal))
	case isOf(b, "[]", 0), isOf(b, "{}", 0):
		return equal, api.OK
	case isOf(b, ".", 2):
		words, err := ahead(b, r)
		return unless(err, c("=", s, words))
	case isOf(b, "{}", 1):
		body, err := bodyOf(b.Args[0])
		return unless(err, c(",", body, equal))
	case isOf(b, "!", 0):
		return c(",", b, equal), api.OK
	}
	more := c(b.Name, append(b.Args[:len(b.Args):len(b.Args)], s, r)...)
	return unless(tooMany(b.Name == "call" && len(b.Args) > 0, more), more)
}

func (x *naive) two(b, s1, r1, s2, r2 api.Term) (api.Term, api.Errno) {
	first, err := x.goal(b.Args[0], s1, r1)
	if err != api.OK {
		return api.Term{}, err
	}
	second, err := x.goal(b.Args[1], s2, r2)
	return unless(err, c(b.Name, first, second))
}

func unless(err api.Errno, t api.Term) (api.Term, api.Errno) {
	if err != api.OK {
		return api.Term{}, err
	}
	return t, api.OK
}

func tooMany(called bool, t api.Term) api.Errno {
	switch {
	case len(t.Args) > api.MaxArity, called && len(t.Args) > 8:
		return api.ErrLarge
	case !called && isReserved(t.Name, len(t.Args)):
		return api.ErrClause
	}
	return api.OK
}

// ahead is a list with r in the place of its `[]`.
func ahead(b, r api.Term) (api.Term, api.Errno) {
	if isOf(b, "[]", 0) {
		return r, api.OK
	}
	if !isOf(b, ".", 2) {
		return api.Term{}, api.ErrKind
	}
	others, err := ahead(b.Args[1], r)
	return unless(err, c(".", b.Args[0], others))
}

// bodyOf is P14's Body.
func bodyOf(t api.Term) (api.Term, api.Errno) {
	if t.Kind == api.Var {
		return c("call", t), api.OK
	}
	if t.Kind == api.Int {
		return api.Term{}, api.ErrKind
	}
	if !isOf(t, ",", 2) && !isOf(t, ";", 2) && !isOf(t, "->", 2) {
		return t, api.OK
	}
	first, err := bodyOf(t.Args[0])
	second, also := bodyOf(t.Args[1])
	return unless(max(err, also), c(t.Name, first, second))
}

// numbered gives those variables that are at least least new numbers, by the order in which they come first.
func numbered(t api.Term, least, from int64) api.Term {
	given := map[int64]int64{}
	var one func(t api.Term) api.Term
	one = func(t api.Term) api.Term {
		if t.Kind == api.Var && t.N >= least {
			if _, again := given[t.N]; !again {
				given[t.N] = from + int64(len(given))
			}
			return v(given[t.N])
		}
		var args []api.Term
		for _, arg := range t.Args {
			args = append(args, one(arg))
		}
		t.Args = args
		return t
	}
	return one(t)
}

// greatestOf is the greatest number of a variable, or -1.
func greatestOf(t api.Term) int64 {
	n := int64(-1)
	if t.Kind == api.Var {
		n = t.N
	}
	for _, arg := range t.Args {
		n = max(n, greatestOf(arg))
	}
	return n
}

func naiveTranslate(t api.Term) (api.Term, api.Errno) {
	if !isOf(t, "-->", 2) {
		return api.Term{}, api.ErrArg
	}
	h, b := t.Args[0], t.Args[1]
	if h.Kind == api.Var || h.Kind == api.Int || isReserved(h.Name, len(h.Args)+2) {
		return api.Term{}, api.ErrClause
	}
	if len(h.Args)+2 > api.MaxArity {
		return api.Term{}, api.ErrLarge
	}
	var x naive
	s, r := x.fresh(), x.fresh()
	goal, err := x.goal(b, s, r)
	head := c(h.Name, append(h.Args[:len(h.Args):len(h.Args)], s, r)...)
	return unless(err, numbered(c(":-", head, goal), 0, 0))
}

func naivePhrase(body, list, rest api.Term) (api.Term, api.Errno) {
	var x naive
	goal, err := x.goal(body, list, rest)
	if err != api.OK {
		return api.Term{}, err
	}
	goal = numbered(goal, far, 1+greatestOf(c("three", body, list, rest)))
	if greatestOf(goal) > api.MaxVar {
		return api.Term{}, api.ErrLarge
	}
	return goal, api.OK
}
