package grammar

import (
	"hornbook/api"
	"hornbook/base"
	"hornbook/term"
)

// point is where a part begins or what is behind it: a term, or a new variable, which has no number until it is written.
type point struct {
	at    api.Term
	known bool
}

// task: a body, the points between which it is, and the place that its goal is to have.
type task struct {
	body     api.Term
	from, to *point
	place    *api.Term
}

// writer writes goals from the left, so that new variables are numbered in the order in which they come first.
// What is left to be written stands in a list, the next one last: bodies may be nested deep.
type writer struct {
	next int64
	left []task
}

// goal is of a body without errors.
func (w *writer) goal(body, from, to api.Term) api.Term {
	var whole api.Term
	w.leave(task{body, &point{from, true}, &point{to, true}, &whole})
	for len(w.left) > 0 {
		last := len(w.left) - 1
		x := w.left[last]
		w.left = w.left[:last]
		*x.place = w.top(x)
	}
	return whole
}

func (w *writer) leave(x task) {
	w.left = append(w.left, x)
}

// top is a goal in which those of the bodies in its body are left to be written.
func (w *writer) top(x task) api.Term {
	t := x.body
	switch formOf(t) {
	case unknown:
		return compound("call", variable(t.N), w.written(x.from), w.written(x.to))
	case sequence:
		middle := &point{}
		return w.both(t, task{from: x.from, to: middle}, task{from: middle, to: x.to})
	case choice:
		return w.both(t, x, x)
	case negation:
		return w.not(x)
	case words:
		return w.reach(t, x)
	case block:
		return w.done(t, x)
	case cut:
		return compound(",", atom("!"), w.reach(noWords(), x))
	}
	return extended(t, w.written(x.from), w.written(x.to))
}

// both is of a body of two: first and second say between which points they are.
func (w *writer) both(t api.Term, first, second task) api.Term {
	args := make([]api.Term, 2)
	w.leave(task{t.Args[1], second.from, second.to, &args[1]})
	w.leave(task{t.Args[0], first.from, first.to, &args[0]})
	return compound(t.Name, args...)
}

// not leaves S = R as well, as the goal of no words, since variables in what is negated come ahead of R.
func (w *writer) not(x task) api.Term {
	inner, args := make([]api.Term, 1), make([]api.Term, 2)
	args[0] = compound(x.body.Name, inner...)
	w.leave(task{noWords(), x.from, x.to, &args[1]})
	w.leave(task{x.body.Args[0], x.from, &point{}, &inner[0]})
	return compound(",", args...)
}

// reach is S = the words, with R behind them.
func (w *writer) reach(list api.Term, x task) api.Term {
	from, ahead := w.written(x.from), term.Copy(list)
	end := &ahead
	for isOf(*end, ".", 2) {
		end = &end.Args[1]
	}
	*end = w.written(x.to)
	return compound("=", from, ahead)
}

// done is of goals in `{` and `}`, if there are any.
func (w *writer) done(t api.Term, x task) api.Term {
	if len(t.Args) == 0 {
		return w.reach(noWords(), x)
	}
	// checkBody has seen to it that there is such a body.
	body, _ := base.Body(t.Args[0])
	return compound(",", body, w.reach(noWords(), x))
}

// written is new memory each time.
func (w *writer) written(p *point) api.Term {
	if !p.known {
		*p = point{variable(w.next), true}
		w.next++
	}
	return term.Copy(p.at)
}

// extended is an atom or a compound with two Args more, which are taken as they are.
func extended(t, from, to api.Term) api.Term {
	args := make([]api.Term, 0, len(t.Args)+2)
	for _, arg := range t.Args {
		args = append(args, term.Copy(arg))
	}
	return compound(t.Name, append(args, from, to)...)
}

func noWords() api.Term {
	return atom("[]")
}

func atom(name string) api.Term {
	return api.Term{Kind: api.Atom, Name: name}
}

func variable(n int64) api.Term {
	return api.Term{Kind: api.Var, N: n}
}

func compound(name string, args ...api.Term) api.Term {
	return api.Term{Kind: api.Comp, Name: name, Args: args}
}
