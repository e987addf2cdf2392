package text

import (
	"hornbook/api"
)

// reader goes through tokens, and panics with givenUp where it cannot go on.
type reader struct {
	operators
	tokens []api.Token
	place  int
	length int
	names  []string
	vars   map[string]int64
}

func readerOf(s string, ops []api.Op) *reader {
	table, err := tableOf(ops)
	if err != api.OK {
		panic(givenUp{api.Fault{Code: err}})
	}
	return &reader{operators: table, tokens: scan(s), length: len(s)}
}

func (r *reader) hasMore() bool {
	return r.place < len(r.tokens)
}

// ahead is the token that is so many behind the next one; one of no kind behind the last.
func (r *reader) ahead(many int) api.Token {
	if r.place+many >= len(r.tokens) {
		return api.Token{At: r.length}
	}
	return r.tokens[r.place+many]
}

func (r *reader) stuck() givenUp {
	return givenUp{api.Fault{Code: api.ErrSyntax, At: r.ahead(0).At}}
}

// skip passes the next token if it is that one, and says whether it is.
func (r *reader) skip(kind int, text string) bool {
	t := r.ahead(0)
	if t.Kind != kind || t.Text != text {
		return false
	}
	r.place++
	return true
}

func (r *reader) pass(kind int, text string) {
	if !r.skip(kind, text) {
		panic(r.stuck())
	}
}

func (r *reader) sentence() api.Sentence {
	r.names, r.vars = nil, map[string]int64{}
	at := r.ahead(0).At
	t := r.term(topPrio)
	return api.Sentence{Term: t, Names: r.names, At: at}
}

func (r *reader) term(most int) api.Term {
	left, prio := r.primary(most)
	return r.infixed(left, prio, most)
}

// infixed reads on behind a term that may be the left one of an infix operator.
func (r *reader) infixed(left api.Term, prio, most int) api.Term {
	for {
		t := r.ahead(0)
		op, ok := r.infixToken(t)
		if !ok || op.own > most || prio > op.left {
			return left
		}
		r.place++
		left, prio = compound(t.Text, left, r.term(op.right)), op.own
	}
}

// primary answers the term's priority, too.
func (r *reader) primary(most int) (api.Term, int) {
	t := r.ahead(0)
	switch {
	case isName(t):
		r.place++
		return r.named(t, most)
	case t.Kind == api.TokInt && t.N >= 0:
		r.place++
		return integer(t.N), 0
	case t.Kind == api.TokVar:
		r.place++
		return r.variable(t.Text), 0
	case t.Kind == api.TokOpen || t.Kind == api.TokPunct:
		return r.bracketed(t.Text), 0
	}
	panic(r.stuck())
}

// named reads on behind a name.
func (r *reader) named(name api.Token, most int) (api.Term, int) {
	next := r.ahead(0)
	if next.Kind == api.TokOpen {
		return r.withArgs(name), 0
	}
	if isSigned(name, next) {
		r.place++
		return integer(-next.N), 0
	}
	if op, ok := r.prefix[name.Text]; ok && op.own <= most && r.canBegin() {
		return compound(name.Text, r.term(op.right)), op.own
	}
	return atom(name.Text), 0
}

func isSigned(name, next api.Token) bool {
	return name.Kind == api.TokAtom && name.Text == "-" && next.Kind == api.TokInt && next.At == name.To
}

// canBegin says whether the next token can begin a term.
func (r *reader) canBegin() bool {
	t, next := r.ahead(0), r.ahead(1)
	switch {
	case t.Kind == api.TokInt || t.Kind == api.TokVar:
		return true
	case t.Kind == api.TokPunct:
		return t.Text == "(" || t.Text == "[" || t.Text == "{"
	case isName(t):
		_, infix := r.infix[t.Text]
		_, prefix := r.prefix[t.Text]
		return !infix || prefix || next.Kind == api.TokOpen || isSigned(t, next)
	}
	return false
}

func (r *reader) withArgs(name api.Token) api.Term {
	r.place++
	args := r.terms()
	r.pass(api.TokPunct, ")")
	if len(args) > api.MaxArity {
		panic(givenUp{api.Fault{Code: api.ErrLarge, At: name.At}})
	}
	return compound(name.Text, args...)
}

// terms are one or more, with commas between that are no operators.
func (r *reader) terms() []api.Term {
	list := []api.Term{r.term(argPrio)}
	for r.skip(api.TokPunct, ",") {
		list = append(list, r.term(argPrio))
	}
	return list
}

// bracketed reads from a bracket on, if it is one that opens.
func (r *reader) bracketed(open string) api.Term {
	switch open {
	case "(":
		return r.inner()
	case "[":
		r.place++
		if r.skip(api.TokPunct, "]") {
			return atom("[]")
		}
		return r.list()
	case "{":
		r.place++
		if r.skip(api.TokPunct, "}") {
			return atom("{}")
		}
		t := r.term(topPrio)
		r.pass(api.TokPunct, "}")
		return compound("{}", t)
	}
	panic(r.stuck())
}

// inner reads brackets that open one behind the other without going deeper for each of them: they make no term deeper.
func (r *reader) inner() api.Term {
	depth := 0
	for r.skip(api.TokPunct, "(") || r.skip(api.TokOpen, "(") {
		depth++
	}
	t := r.term(topPrio)
	r.pass(api.TokPunct, ")")
	for range depth - 1 {
		t = r.infixed(t, 0, topPrio)
		r.pass(api.TokPunct, ")")
	}
	return t
}

func (r *reader) list() api.Term {
	items := r.terms()
	rest := atom("[]")
	if r.skip(api.TokPunct, "|") {
		rest = r.term(argPrio)
	}
	r.pass(api.TokPunct, "]")
	for k := len(items) - 1; k >= 0; k-- {
		rest = compound(".", items[k], rest)
	}
	return rest
}

func (r *reader) variable(name string) api.Term {
	n, known := r.vars[name]
	if !known {
		n = int64(len(r.names))
		r.names = append(r.names, name)
		if name != "_" {
			r.vars[name] = n
		}
	}
	return api.Term{Kind: api.Var, N: n}
}

func atom(name string) api.Term {
	return api.Term{Kind: api.Atom, Name: name}
}

func integer(n int64) api.Term {
	return api.Term{Kind: api.Int, N: n}
}

// compound keeps args: they must be new.
func compound(name string, args ...api.Term) api.Term {
	return api.Term{Kind: api.Comp, Name: name, Args: args}
}
