package cell

import (
	"hornbook/api"
)

// Compare tells the order of two terms. It is unclear if the first place at which they differ has two variables.
func Compare(x, y Value) (order int, unclear bool) {
	var met classes
	work := []couple{{x, y}}
	for len(work) > 0 {
		next := work[len(work)-1]
		work = work[:len(work)-1]
		x, y := Deref(next.x), Deref(next.y)
		if x == y {
			continue
		}
		if order := x.Shape().order(y.Shape()); order != 0 {
			return order, false
		}
		a, isOne := x.(*Compound)
		b, isOther := y.(*Compound)
		if !isOne || !isOther {
			// Constants of one shape are the same.
			return 0, true
		}
		if !met.same(a, b) {
			work = appendArgs(work, a, b)
		}
	}
	return 0, false
}

// Same: are two terms the same?
func Same(x, y Value) bool {
	order, unclear := Compare(x, y)
	return order == 0 && !unclear
}

// IsGround: is there no free variable in a term?
func IsGround(v Value) bool {
	return !hasFree(v, func(*Variable) bool { return true })
}

// hasFree: is there a free variable in a term that is such a one?
func hasFree(v Value, such func(x *Variable) bool) bool {
	found := false
	Fold(v, func(v Value) (struct{}, bool) {
		if x, is := v.(*Variable); is {
			found = found || such(x)
		}
		c, is := v.(*Compound)
		return struct{}{}, is && !c.fixed && !found
	}, func(*Compound, []struct{}) struct{} {
		return struct{}{}
	})
	return found
}

// folding: a compound that is gone through, and what came of its first Args.
type folding[R any] struct {
	at *Compound
	of []R
}

// Fold goes through a term from the left. What comes of a part says enter, or that it is to be gone into: then leave says it
// of what came of the Args. What a part came to is not asked again, however often it stands in the term.
func Fold[R any](v Value, enter func(v Value) (R, bool), leave func(c *Compound, of []R) R) R {
	var known memory[R]
	var way []folding[R]
	for {
		at := Deref(v)
		r, into := enter(at)
		if c, is := at.(*Compound); is && into {
			again := false
			if r, again = known.find(c); !again {
				way = append(way, folding[R]{c, make([]R, 0, len(c.Args))})
				v = c.Args[0]
				continue
			}
		}
		for len(way) > 0 {
			top := &way[len(way)-1]
			top.of = append(top.of, r)
			if len(top.of) < len(top.at.Args) {
				v = top.at.Args[len(top.of)]
				break
			}
			r = leave(top.at, top.of)
			known.keep(top.at, r)
			way = way[:len(way)-1]
		}
		if len(way) == 0 {
			return r
		}
	}
}

// memory of what compounds came to, once there are many.
type memory[R any] struct {
	met int
	of  map[*Compound]R
}

func (m *memory[R]) find(c *Compound) (R, bool) {
	m.met++
	r, again := m.of[c]
	return r, again
}

func (m *memory[R]) keep(c *Compound, r R) {
	if m.met < enough {
		return
	}
	if m.of == nil {
		m.of = map[*Compound]R{}
	}
	m.of[c] = r
}

// Copy is a term with new variables.
func (s *Store) Copy(v Value) Value {
	given := map[*Variable]*Variable{}
	return Fold(v, func(v Value) (Value, bool) {
		switch x := v.(type) {
		case *Variable:
			if given[x] == nil {
				given[x] = s.Variable()
			}
			return given[x], false
		case *Compound:
			return v, !x.fixed
		}
		return v, false
	}, Remade)
}

// Remade is a compound with other Args.
func Remade(c *Compound, args []Value) Value {
	return Made(c.Name, args...)
}

// task: what a place is to be filled with.
type task struct {
	place *api.Term
	from  Value
}

// Written is a term as plain memory, its variables numbered from 0 on in the order in which they come first.
func Written(v Value) api.Term {
	var whole api.Term
	numbers := map[*Variable]int64{}
	work := []task{{&whole, v}}
	for len(work) > 0 {
		next := work[len(work)-1]
		work = work[:len(work)-1]
		from := Deref(next.from)
		shape := from.Shape()
		next.place.Kind, next.place.N, next.place.Name = shape.Kind, shape.N, shape.Name
		switch x := from.(type) {
		case *Variable:
			if _, again := numbers[x]; !again {
				numbers[x] = int64(len(numbers))
			}
			next.place.Kind, next.place.N = api.Var, numbers[x]
		case *Compound:
			next.place.Args = make([]api.Term, len(x.Args))
			for k := len(x.Args) - 1; k >= 0; k-- {
				work = append(work, task{&next.place.Args[k], x.Args[k]})
			}
		}
	}
	return whole
}

// Read is a term with new variables in the place of its own. It is of what is known to be a term.
func (s *Store) Read(t api.Term) Value {
	return s.ReadAll(t)[0]
}

// ReadAll is Read of some terms that have variables in common.
func (s *Store) ReadAll(list ...api.Term) []Value {
	given := map[int64]*Variable{}
	values := make([]Value, len(list))
	for k, t := range list {
		values[k] = read(t, func(n int64) Value {
			if given[n] == nil {
				given[n] = s.Variable()
			}
			return given[n]
		})
	}
	return values
}

// reading: a compound that is gone through, and what its first Args became.
type reading struct {
	at   *api.Term
	args []Value
}

func read(t api.Term, variable func(n int64) Value) Value {
	var way []reading
	next := &t
	for {
		var v Value
		switch next.Kind {
		case api.Var:
			v = variable(next.N)
		case api.Int:
			v = Number(next.N)
		case api.Atom:
			v = Atom(next.Name)
		default:
			way = append(way, reading{next, make([]Value, 0, len(next.Args))})
			next = &next.Args[0]
			continue
		}
		for len(way) > 0 {
			top := &way[len(way)-1]
			top.args = append(top.args, v)
			if len(top.args) < len(top.at.Args) {
				next = &top.at.Args[len(top.args)]
				break
			}
			v = Made(top.at.Name, top.args...)
			way = way[:len(way)-1]
		}
		if len(way) == 0 {
			return v
		}
	}
}
