package machine

import (
	"hornbook/api"
	"hornbook/cell"
	"hornbook/inbuilt"
)

// step does the next instruction: it says whether that holds, or the ball that is thrown.
func (m *Machine) step() (holds bool, ball cell.Value) {
	m.steps++
	i := &m.code[m.at]
	m.at++
	switch i.op {
	case api.SubVar, api.SubVal, api.SubConst, api.SubComp, api.SubVoid:
		return m.doPart(i), nil
	}
	if m.isWriting() {
		m.stopWriting()
	}
	switch i.op {
	case api.Call, api.Last:
		return m.call(i)
	case api.Builtin:
		return i.deed(&m.desk, m.firstArgs(i.n))
	case api.GetVar, api.GetVal, api.GetConst, api.GetComp, api.PutVar, api.PutVal, api.PutConst, api.PutComp:
		return m.doArg(i), nil
	}
	return m.doOrder(i), nil
}

// doPart does an instruction that asks for parts.
func (m *Machine) doPart(i *instruction) bool {
	switch i.op {
	case api.SubVar:
		v, ok := m.part()
		if ok {
			m.setSlot(i.a, v)
		}
		return ok
	case api.SubVal:
		return m.unifyPart(m.slot(i.a))
	case api.SubConst:
		return m.unifyPart(i.constant)
	case api.SubComp:
		return m.unifyPartComp(i)
	}
	return m.passOver(i.a)
}

// doArg does an instruction that gets or puts an arg.
func (m *Machine) doArg(i *instruction) bool {
	switch i.op {
	case api.GetVar:
		m.setSlot(i.b, m.arg(i.a))
	case api.GetVal:
		return m.unify(m.arg(i.a), m.slot(i.b))
	case api.GetConst:
		return m.unify(m.arg(i.a), i.constant)
	case api.GetComp:
		m.parts = parts{}
		return m.unifyComp(m.arg(i.a), i)
	case api.PutVar:
		v := m.variable()
		m.setArg(i.a, v)
		m.setSlot(i.b, v)
	case api.PutVal:
		m.setArg(i.a, m.slot(i.b))
	case api.PutConst:
		m.setArg(i.a, i.constant)
	case api.PutComp:
		m.parts = parts{}
		m.draft.arg = i.a
		m.draft.nest(i)
	}
	return true
}

// doOrder does an instruction that says what comes next, or has to do with choices.
func (m *Machine) doOrder(i *instruction) bool {
	switch i.op {
	case api.Back:
		m.at, m.frame, m.parts = m.frame.back, m.frame.caller, parts{}
	case api.Fail:
		return false
	case api.Try:
		m.choose(i.a)
	case api.Jump:
		m.at = i.a
	case api.Level:
		m.setSlot(i.a, height(m.frame.level))
	case api.Mark:
		m.setSlot(i.a, height(len(m.choices)))
	case api.Cut:
		if h, is := m.frame.slots.get(i.a).(height); is && int(h) < len(m.choices) {
			m.cut(int(h))
		}
	case api.UnlessConst, api.UnlessComp:
		if m.isUnlike(m.arg(0), i) {
			m.at = i.a
		}
	}
	return true
}

func (m *Machine) unify(x, y cell.Value) bool {
	return m.desk.Store.Unify(x, y)
}

// call goes to the entry of a predicate.
func (m *Machine) call(i *instruction) (bool, cell.Value) {
	if i.entry == noEntry {
		return false, inbuilt.Unknown(i.name, i.n)
	}
	own := &frame{slots: bank{born: m.clock}, level: len(m.choices), caller: m.frame, back: m.at}
	if i.op == api.Last {
		own.caller, own.back = m.frame.caller, m.frame.back
	}
	m.at, m.frame, m.parts = i.entry, own, parts{}
	return true, nil
}

func (m *Machine) firstArgs(n int) []cell.Value {
	args := make([]cell.Value, n)
	for k := range args {
		args[k] = m.arg(k)
	}
	return args
}

// isUnlike: is a term no variable, and not what an instruction has as its constant or compound?
func (m *Machine) isUnlike(v cell.Value, i *instruction) bool {
	if _, is := v.(*cell.Variable); is {
		return false
	}
	if i.op == api.UnlessComp {
		return !cell.IsOf(v, i.name, i.n)
	}
	return v != i.constant
}
