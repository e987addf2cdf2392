package machine

import (
	"slices"

	"hornbook/cell"
)

// kept is what a choice keeps, beside what is bound.
type kept struct {
	args  bank
	frame *frame // nil, when all is done
	parts parts
}

// choice is what the machine goes on from when something fails.
type choice struct {
	kept
	at   int
	born int // the time, by the machine's clock
}

// frame is what a predicate that was gone to has of its own.
type frame struct {
	slots  bank
	level  int    // how many choices there were when it was gone to
	caller *frame // nil of the query's own
	back   int    // where the caller goes on
}

// bank is a row of args or slots. What is nil, or behind the row, was not set.
type bank struct {
	row  []cell.Value
	born int
}

// height is a number of choices: it lies in a slot in the place of a term.
type height int

// Shape is that of nothing, since a height is no term.
func (h height) Shape() cell.Shape { return cell.Shape{} }

func (b *bank) get(k int) cell.Value {
	if k < len(b.row) {
		return b.row[k]
	}
	return nil
}

// set writes to a bank; if a choice may keep the row, which is so if it is older, to a new one.
func (m *Machine) set(b *bank, k int, v cell.Value) {
	if m.isKept(b) {
		b.row, b.born = slices.Clone(b.row), m.clock
	}
	if k >= len(b.row) {
		b.row = append(b.row, make([]cell.Value, k+1-len(b.row))...)
	}
	b.row[k] = v
}

func (m *Machine) isKept(b *bank) bool {
	return len(m.choices) > 0 && b.born < m.choices[len(m.choices)-1].born
}

func (m *Machine) setArg(k int, v cell.Value) {
	m.set(&m.args, k, v)
}

// setSlot leaves a frame that a choice may keep as it is.
func (m *Machine) setSlot(k int, v cell.Value) {
	if m.isKept(&m.frame.slots) {
		own := *m.frame
		m.frame = &own
	}
	m.set(&m.frame.slots, k, v)
}

// arg is asked for: so it is set from now on.
func (m *Machine) arg(k int) cell.Value {
	v := m.args.get(k)
	if v == nil {
		v = m.variable()
		m.setArg(k, v)
	}
	return cell.Deref(v)
}

// slot is asked for a term.
func (m *Machine) slot(k int) cell.Value {
	v := m.frame.slots.get(k)
	if _, is := v.(height); is || v == nil {
		v = m.variable()
		m.setSlot(k, v)
	}
	return cell.Deref(v)
}

func (m *Machine) variable() *cell.Variable {
	return m.desk.Store.Variable()
}

func (m *Machine) choose(at int) {
	m.desk.Store.Mark()
	m.clock++
	m.choices = append(m.choices, choice{m.kept, at, m.clock})
}

// cut leaves the first so many choices.
func (m *Machine) cut(most int) {
	clear(m.choices[most:])
	m.choices = m.choices[:most]
	m.desk.Store.Keep(most)
}

// fail goes on from the newest choice; false, if there is none.
func (m *Machine) fail() bool {
	if len(m.choices) == 0 {
		return false
	}
	newest := len(m.choices) - 1
	c := m.choices[newest]
	m.desk.Store.Back()
	m.cut(newest)
	m.draft.drop()
	m.kept, m.at = c.kept, c.at
	return true
}
