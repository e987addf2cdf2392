package text

import (
	"strconv"
	"strings"

	"hornbook/api"
)

// printer writes a term that is known to be one.
type printer struct {
	operators
	out []byte
}

func (p *printer) write(s string) {
	p.out = append(p.out, s...)
}

func (p *printer) term(t api.Term, most int) {
	switch t.Kind {
	case api.Var:
		p.write("_")
		p.out = strconv.AppendInt(p.out, t.N, 10)
	case api.Int:
		p.out = strconv.AppendInt(p.out, t.N, 10)
	case api.Atom:
		p.atom(t.Name)
	default:
		p.compound(t, most)
	}
}

func (p *printer) atom(name string) {
	if name == "[]" || name == "{}" {
		p.write(name)
		return
	}
	p.name(name)
}

func (p *printer) compound(t api.Term, most int) {
	switch len(t.Args) {
	case 1:
		if t.Name == "{}" {
			p.write("{")
			p.term(t.Args[0], topPrio)
			p.write("}")
			return
		}
		if op, ok := p.prefix[t.Name]; ok {
			p.prefixed(t, op, most)
			return
		}
	case 2:
		if t.Name == "." {
			p.list(t)
			return
		}
		if op, ok := p.between(t); ok {
			p.infixed(t, op, most)
			return
		}
	}
	p.plain(t)
}

// between finds the operator that a compound of two is printed with.
func (p *printer) between(t api.Term) (priorities, bool) {
	if t.Name == "," {
		return comma(), true
	}
	op, ok := p.infix[t.Name]
	return op, ok
}

func (p *printer) plain(t api.Term) {
	p.name(t.Name)
	p.write("(")
	for k, arg := range t.Args {
		if k > 0 {
			p.write(",")
		}
		p.term(arg, argPrio)
	}
	p.write(")")
}

func (p *printer) list(t api.Term) {
	p.write("[")
	p.term(t.Args[0], argPrio)
	rest := t.Args[1]
	for isPair(rest) {
		p.write(",")
		p.term(rest.Args[0], argPrio)
		rest = rest.Args[1]
	}
	if rest.Kind != api.Atom || rest.Name != "[]" {
		p.write("|")
		p.term(rest, argPrio)
	}
	p.write("]")
}

func isPair(t api.Term) bool {
	return t.Kind == api.Comp && t.Name == "." && len(t.Args) == 2
}

func (p *printer) prefixed(t api.Term, op priorities, most int) {
	p.openAbove(op.own, most)
	p.name(t.Name)
	p.write(" ")
	p.operand(t.Args[0], op.right)
	p.closeAbove(op.own, most)
}

func (p *printer) infixed(t api.Term, op priorities, most int) {
	p.openAbove(op.own, most)
	p.operand(t.Args[0], p.leftMost(t.Args[0], op))
	if t.Name == "," {
		p.write(",")
	} else {
		p.write(" ")
		p.name(t.Name)
		p.write(" ")
	}
	p.operand(t.Args[1], op.right)
	p.closeAbove(op.own, most)
}

// leftMost: a left operand of the operator's own priority may not reach over to what is behind the operator, as one
// with a prefix operator or an XFY one would.
func (p *printer) leftMost(t api.Term, op priorities) int {
	if len(t.Args) == 2 {
		if inner, ok := p.infix[t.Name]; ok && inner.isYFX() {
			return op.left
		}
	}
	return op.own - 1
}

// operand keeps an operator that stands for itself from being read as the operator it stands beside.
func (p *printer) operand(t api.Term, most int) {
	if t.Kind == api.Atom && p.isOperator(t.Name) {
		p.write("(")
		p.atom(t.Name)
		p.write(")")
		return
	}
	p.term(t, most)
}

func (p *printer) openAbove(prio, most int) {
	if prio > most {
		p.write("(")
	}
}

func (p *printer) closeAbove(prio, most int) {
	if prio > most {
		p.write(")")
	}
}

func (p *printer) name(name string) {
	if isPlain(name) {
		p.write(name)
		return
	}
	p.write("'")
	for k := range len(name) {
		p.quoted(name[k])
	}
	p.write("'")
}

// isPlain: a single `.` could be taken for an end, and what begins like a comment for one.
func isPlain(name string) bool {
	if name == "" || name == "." || strings.HasPrefix(name, "/*") {
		return false
	}
	return atomEnd(name, 0) == len(name)
}

func (p *printer) quoted(c byte) {
	switch {
	case c == '\'':
		p.write("\\'")
	case c == '\\':
		p.write("\\\\")
	case c == '\n':
		p.write("\\n")
	case c == '\t':
		p.write("\\t")
	case !isPrintable(c):
		p.write("\\x")
		p.out = append(p.out, hexDigits[c>>4], hexDigits[c&15])
	default:
		p.out = append(p.out, c)
	}
}
