package compile

import (
	"hornbook/api"
)

// standing is where a goal stands in its clause.
type standing struct {
	last   bool // nothing comes behind it
	alone  bool // it is part of what is searched by itself
	height int  // then: the slot with how many choices there were when that began
	free   int  // the first slot that nothing lies in
}

// goal writes what a goal does. Behind the last one of a clause the machine goes back to who called. A call goes there itself:
// else an answer would have to come back through all the calls that led to it, which takes a search no steps.
func (w *writer) goal(t api.Term, s standing) {
	switch goalOf(t) {
	case both:
		ahead := s
		ahead.last = false
		w.goal(t.Args[0], ahead)
		w.goal(t.Args[1], s)
		return
	case either:
		w.either(t.Args[0], t.Args[1], s)
		return
	case condition:
		w.condition(t, api.Term{Kind: api.Atom, Name: "fail"}, s)
		return
	case failure:
		w.write(api.Instr{Op: api.Fail})
		return
	case call:
		w.call(t, s)
		return
	case cut:
		w.cut(s)
	case negation:
		w.negation(t.Args[0], s)
	case builtin:
		w.args(t.Args)
		w.write(api.Instr{Op: api.Builtin, Con: predicateOf(t)})
	}
	if s.last {
		w.write(api.Instr{Op: api.Back})
	}
}

func (w *writer) args(l []api.Term) {
	for k, t := range l {
		w.arg(k, t, ops{api.PutVar, api.PutVal, api.PutConst, api.PutComp})
	}
}

func (w *writer) call(t api.Term, s standing) {
	w.args(t.Args)
	op := api.Call
	if s.last {
		op = api.Last
	}
	w.write(api.Instr{Op: op, Con: predicateOf(t)})
}

func (w *writer) cut(s standing) {
	if s.alone {
		w.write(api.Instr{Op: api.Cut, A: s.height})
		return
	}
	w.write(api.Instr{Op: api.Level, A: w.spare})
	w.write(api.Instr{Op: api.Cut, A: w.spare})
}

func (w *writer) either(one, other api.Term, s standing) {
	if goalOf(one) == condition {
		w.condition(one, other, s)
		return
	}
	try := w.write(api.Instr{Op: api.Try})
	w.branches(one, other, try, s)
}

func (w *writer) condition(t, otherwise api.Term, s standing) {
	miss := w.searched(t.Args[0], s)
	w.branches(t.Args[1], otherwise, miss, s)
}

func (w *writer) negation(body api.Term, s standing) {
	miss := w.searched(body, s)
	w.write(api.Instr{Op: api.Fail})
	w.leadHere(miss)
}

// branches writes two of which one is gone through; the choice that was written ahead of them goes on at the other.
func (w *writer) branches(one, other api.Term, choice int, s standing) {
	w.goal(one, s)
	var over []int
	if !s.last {
		over = append(over, w.write(api.Instr{Op: api.Jump}))
	}
	w.leadHere(choice)
	w.goal(other, s)
	w.leadHere(over...)
}

// searched writes what is searched by itself for one answer: that comes to the next instruction.
// It answers the place of the choice that goes on where there is none.
// The slots that it takes are free again behind it, since then there is no choice left within it.
func (w *writer) searched(body api.Term, s standing) (choice int) {
	outside := s.free
	within := standing{alone: true, height: outside + 1, free: outside + 1}
	w.write(api.Instr{Op: api.Mark, A: outside})
	choice = w.write(api.Instr{Op: api.Try})
	if hasCut(body) {
		within.free++
		w.write(api.Instr{Op: api.Mark, A: within.height})
	}
	w.takeSlots(within.free)
	w.goal(body, within)
	w.write(api.Instr{Op: api.Cut, A: outside})
	return choice
}
