package text

import (
	"strconv"
	"strings"

	"hornbook/api"
)

// printer writes a term that is known to be one. What is to be written behind what is written now stands in a list, the next
// on top: a search may print terms that are nested deeper than calls may be.
type printer struct {
	operators
	out  []byte
	todo []job
}

// job: something to be written.
type job struct {
	do   func(p *printer, j job)
	term *api.Term
	most int
	text string
}

// later has these done one behind the other, ahead of all that is to be done already.
func (p *printer) later(list ...job) {
	for k := len(list) - 1; k >= 0; k-- {
		p.todo = append(p.todo, list[k])
	}
}

// all writes a whole term.
func (p *printer) all(t api.Term) {
	p.later(termJob(&t, topPrio))
	for len(p.todo) > 0 {
		next := p.todo[len(p.todo)-1]
		p.todo = p.todo[:len(p.todo)-1]
		next.do(p, next)
	}
}

func termJob(t *api.Term, most int) job {
	return job{do: func(p *printer, j job) { p.term(*j.term, j.most) }, term: t, most: most}
}

func operandJob(t *api.Term, most int) job {
	return job{do: func(p *printer, j job) { p.operand(*j.term, j.most) }, term: t, most: most}
}

func restJob(t *api.Term) job {
	return job{do: func(p *printer, j job) { p.rest(j.term) }, term: t}
}

func textJob(s string) job {
	return job{do: func(p *printer, j job) { p.write(j.text) }, text: s}
}

func infixJob(name string) job {
	return job{do: func(p *printer, j job) { p.infixName(j.text) }, text: name}
}

func (p *printer) write(s string) {
	p.out = append(p.out, s...)
}

func (p *printer) term(t api.Term, most int) {
	switch t.Kind {
	case api.Var:
		p.write("_")
		p.out = strconv.AppendInt(p.out, t.N, 10)
	case api.Int:
		p.out = strconv.AppendInt(p.out, t.N, 10)
	case api.Atom:
		p.atom(t.Name)
	default:
		p.compound(t, most)
	}
}

func (p *printer) atom(name string) {
	if name == "[]" || name == "{}" {
		p.write(name)
		return
	}
	p.name(name)
}

func (p *printer) compound(t api.Term, most int) {
	switch len(t.Args) {
	case 1:
		if t.Name == "{}" {
			p.write("{")
			p.later(termJob(&t.Args[0], topPrio), textJob("}"))
			return
		}
		if op, ok := p.prefix[t.Name]; ok {
			p.prefixed(t, op, most)
			return
		}
	case 2:
		if t.Name == "." {
			p.list(t)
			return
		}
		if op, ok := p.between(t); ok {
			p.infixed(t, op, most)
			return
		}
	}
	p.plain(t)
}

// between finds the operator that a compound of two is printed with.
func (p *printer) between(t api.Term) (priorities, bool) {
	if t.Name == "," {
		return comma(), true
	}
	op, ok := p.infix[t.Name]
	return op, ok
}

func (p *printer) plain(t api.Term) {
	p.name(t.Name)
	p.write("(")
	p.later(textJob(")"))
	for k := len(t.Args) - 1; k > 0; k-- {
		p.later(textJob(","), termJob(&t.Args[k], argPrio))
	}
	p.later(termJob(&t.Args[0], argPrio))
}

func (p *printer) list(t api.Term) {
	p.write("[")
	p.later(termJob(&t.Args[0], argPrio), restJob(&t.Args[1]))
}

// rest writes a list behind its first entries.
func (p *printer) rest(t *api.Term) {
	switch {
	case isPair(*t):
		p.write(",")
		p.later(termJob(&t.Args[0], argPrio), restJob(&t.Args[1]))
	case t.Kind == api.Atom && t.Name == "[]":
		p.write("]")
	default:
		p.write("|")
		p.later(termJob(t, argPrio), textJob("]"))
	}
}

func isPair(t api.Term) bool {
	return t.Kind == api.Comp && t.Name == "." && len(t.Args) == 2
}

func (p *printer) prefixed(t api.Term, op priorities, most int) {
	opening, closing := brackets(op.own, most)
	p.write(opening)
	p.name(t.Name)
	p.write(" ")
	p.later(operandJob(&t.Args[0], op.right), textJob(closing))
}

func (p *printer) infixed(t api.Term, op priorities, most int) {
	opening, closing := brackets(op.own, most)
	p.write(opening)
	p.later(
		operandJob(&t.Args[0], p.leftMost(t.Args[0], op)),
		infixJob(t.Name),
		operandJob(&t.Args[1], op.right),
		textJob(closing),
	)
}

func (p *printer) infixName(name string) {
	if name == "," {
		p.write(",")
		return
	}
	p.write(" ")
	p.name(name)
	p.write(" ")
}

// leftMost: a left operand of the operator's own priority may not reach over to what is behind the operator, as one
// with a prefix operator or an XFY one would.
func (p *printer) leftMost(t api.Term, op priorities) int {
	if len(t.Args) == 2 {
		if inner, ok := p.infix[t.Name]; ok && inner.isYFX() {
			return op.left
		}
	}
	return op.own - 1
}

// operand keeps an operator that stands for itself from being read as the operator it stands beside.
func (p *printer) operand(t api.Term, most int) {
	if t.Kind == api.Atom && p.isOperator(t.Name) {
		p.write("(")
		p.atom(t.Name)
		p.write(")")
		return
	}
	p.term(t, most)
}

// brackets stand about what has a priority above that up to which it is written.
func brackets(prio, most int) (opening, closing string) {
	if prio > most {
		return "(", ")"
	}
	return "", ""
}

func (p *printer) name(name string) {
	if isPlain(name) {
		p.write(name)
		return
	}
	p.write("'")
	for k := range len(name) {
		p.quoted(name[k])
	}
	p.write("'")
}

// isPlain: a single `.` could be taken for an end, and what begins like a comment for one.
func isPlain(name string) bool {
	if name == "" || name == "." || strings.HasPrefix(name, "/*") {
		return false
	}
	return atomEnd(name, 0) == len(name)
}

func (p *printer) quoted(c byte) {
	switch {
	case c == '\'':
		p.write("\\'")
	case c == '\\':
		p.write("\\\\")
	case c == '\n':
		p.write("\\n")
	case c == '\t':
		p.write("\\t")
	case !isPrintable(c):
		p.write("\\x")
		p.out = append(p.out, hexDigits[c>>4], hexDigits[c&15])
	default:
		p.out = append(p.out, c)
	}
}
