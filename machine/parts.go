package machine

import (
	"hornbook/cell"
)

// parts are those that are left: a row, which is empty only if there are none, and those behind it.
// They are never written to, so that choices may keep them.
type parts struct {
	row    []cell.Value
	behind *parts
}

// ahead is some parts, one or more, and then these.
func (p parts) ahead(row []cell.Value) parts {
	if len(p.row) == 0 {
		return parts{row: row}
	}
	rest := p
	return parts{row, &rest}
}

// take gives the next part, if there is one.
func (p *parts) take() (v cell.Value, ok bool) {
	if len(p.row) == 0 {
		return nil, false
	}
	v = p.row[0]
	switch {
	case len(p.row) > 1:
		p.row = p.row[1:]
	case p.behind != nil:
		*p = *p.behind
	default:
		*p = parts{}
	}
	return v, true
}

// draft is a compound that is being written from the left, with those that are nested in it. Meanwhile nothing is asked for
// but its parts and slots: so nobody can see that its Args are not variables first, which other terms are unified with then.
type draft struct {
	open []unfinished   // the innermost last
	to   *cell.Variable // what is unified with it
	arg  int            // what becomes it, if there is no such variable
}

// unfinished is a compound, some of whose Args are still to come.
type unfinished struct {
	name string
	args []cell.Value
	left int
}

func (d *draft) drop() {
	clear(d.open)
	d.open, d.to = d.open[:0], nil
}

// nest begins a compound.
func (d *draft) nest(i *instruction) {
	d.open = append(d.open, unfinished{i.name, make([]cell.Value, 0, i.n), i.n})
}

func (m *Machine) isWriting() bool {
	return len(m.draft.open) > 0
}

// write puts a term in the place of the next part; the compounds whose last one that is are done.
func (m *Machine) write(v cell.Value) {
	for m.isWriting() {
		last := len(m.draft.open) - 1
		top := &m.draft.open[last]
		top.args = append(top.args, v)
		top.left--
		if top.left > 0 {
			return
		}
		v = cell.Made(top.name, top.args...)
		*top = unfinished{}
		m.draft.open = m.draft.open[:last]
	}
	if m.draft.to == nil {
		m.setArg(m.draft.arg, v)
		return
	}
	m.desk.Store.Bind(m.draft.to, v)
	m.draft.to = nil
}

// stopWriting makes what was not written new variables: these are parts that are left.
func (m *Machine) stopWriting() {
	var row []cell.Value
	for m.isWriting() {
		v := m.variable()
		row = append(row, v)
		m.write(v)
	}
	m.parts = m.parts.ahead(row)
}

// part gives the next one, if there is one.
func (m *Machine) part() (cell.Value, bool) {
	if !m.isWriting() {
		return m.parts.take()
	}
	v := m.variable()
	m.write(v)
	return v, true
}

// unifyPart unifies the next part with a term.
func (m *Machine) unifyPart(v cell.Value) bool {
	if !m.isWriting() {
		part, ok := m.parts.take()
		return ok && m.unify(part, v)
	}
	if m.draft.to != nil && cell.IsWithin(m.draft.to, v) {
		return false
	}
	m.write(v)
	return true
}

// unifyPartComp unifies the next part with a compound of new variables, which are parts ahead of those that are left.
func (m *Machine) unifyPartComp(i *instruction) bool {
	if m.isWriting() {
		m.draft.nest(i)
		return true
	}
	part, ok := m.parts.take()
	return ok && m.unifyComp(cell.Deref(part), i)
}

// unifyComp is the same of any term.
func (m *Machine) unifyComp(v cell.Value, i *instruction) bool {
	switch x := v.(type) {
	case *cell.Variable:
		m.draft.to = x
		m.draft.nest(i)
		return true
	case *cell.Compound:
		if cell.IsOf(x, i.name, i.n) {
			m.parts = m.parts.ahead(x.Args)
			return true
		}
	}
	return false
}

func (m *Machine) passOver(n int) bool {
	for range n {
		if _, ok := m.part(); !ok {
			return false
		}
	}
	return true
}
