package cell

// couple: two terms that are to be the same.
type couple struct {
	x, y Value
}

// union: what was met on the way of making terms the same, and the variables by which a loop may have come to be.
type union struct {
	met      classes
	suspects []*Variable
}

// Unify makes two terms the same. If they can't be, it may have bound something: that is the caller's to take back.
func (s *Store) Unify(x, y Value) bool {
	if s.later != nil {
		return s.unite(x, y, s.later)
	}
	var u union
	return s.unite(x, y, &u) && !anyInLoop(u.suspects)
}

// Later puts off looking for loops: from now on Loops does that, once for all. It is for a store in which nothing is taken back,
// so that what is the same stays so, and is not gone through again, however often it is to be made so.
func (s *Store) Later() {
	s.later = &union{}
}

// Loops: is there a term, by what was unified since Later, that would have to be nested in itself?
func (s *Store) Loops() bool {
	return anyInLoop(s.later.suspects)
}

func (s *Store) unite(x, y Value, u *union) bool {
	work := []couple{{x, y}}
	for len(work) > 0 {
		next := work[len(work)-1]
		work = work[:len(work)-1]
		x, y := Deref(next.x), Deref(next.y)
		if x == y {
			continue
		}
		if _, is := x.(*Variable); !is {
			x, y = y, x
		}
		if v, is := x.(*Variable); is {
			if !s.assign(v, y, u) {
				return false
			}
			continue
		}
		a, isOne := x.(*Compound)
		b, isOther := y.(*Compound)
		if !isOne || !isOther || a.Name != b.Name || len(a.Args) != len(b.Args) {
			return false
		}
		if !u.met.same(a, b) {
			work = appendArgs(work, a, b)
		}
	}
	return true
}

// appendArgs lays the first ones on top.
func appendArgs(work []couple, a, b *Compound) []couple {
	for k := len(a.Args) - 1; k >= 0; k-- {
		work = append(work, couple{a.Args[k], b.Args[k]})
	}
	return work
}

// assign binds a free variable to another term; false, if the variable is seen to be in that term.
// Where it would take long to tell, or is put off, the variable is a suspect.
func (s *Store) assign(v *Variable, to Value, u *union) bool {
	switch x := to.(type) {
	case *Variable:
		s.join(v, x)
		return true
	case *Compound:
		if v.inside && !x.fixed {
			found, ended := false, false
			if s.later == nil {
				found, ended = lookWithin(v, x)
			}
			if found {
				return false
			}
			if !ended {
				u.suspects = append(u.suspects, v)
			}
		}
	}
	s.Bind(v, to)
	return true
}

// join binds one variable to another: that to which fewer lead, so that ways stay short.
func (s *Store) join(v, w *Variable) {
	if v.rank > w.rank {
		v, w = w, v
	}
	if v.rank == w.rank {
		w.rank++
	}
	w.inside = w.inside || v.inside
	s.Bind(v, w)
}

// IsWithin: is a free variable among the parts of a term?
func IsWithin(v *Variable, t Value) bool {
	t = Deref(t)
	c, is := t.(*Compound)
	switch {
	case !is:
		return t == v
	case !v.inside || c.fixed:
		return false
	}
	found, ended := lookWithin(v, c)
	return found || !ended && hasFree(c, func(x *Variable) bool { return x == v })
}

// lookWithin: is a variable found in a compound? It is not ended if there is too much to go through.
func lookWithin(v *Variable, c *Compound) (found, ended bool) {
	work := []*Compound{c}
	for met := 0; len(work) > 0; met++ {
		if met == enough {
			return false, false
		}
		next := work[len(work)-1]
		work = work[:len(work)-1]
		for _, arg := range next.Args {
			switch x := Deref(arg).(type) {
			case *Variable:
				if x == v {
					return true, true
				}
			case *Compound:
				if !x.fixed {
					work = append(work, x)
				}
			}
		}
	}
	return false, true
}

// Where a compound stands on a search for loops.
const (
	onTheWay = iota + 1
	left
)

// step: a compound on the way, and how many of its Args were gone into.
type step struct {
	at   *Compound
	next int
}

// anyInLoop: is there a compound within itself? If there is one, it is in what one of these variables is bound to.
func anyInLoop(suspects []*Variable) bool {
	if len(suspects) == 0 {
		return false
	}
	met := map[*Compound]int{}
	for _, v := range suspects {
		if c, is := Deref(v).(*Compound); is && met[c] != left && leadsIntoLoop(c, met) {
			return true
		}
	}
	return false
}

func leadsIntoLoop(c *Compound, met map[*Compound]int) bool {
	met[c] = onTheWay
	way := []step{{at: c}}
	for len(way) > 0 {
		top := &way[len(way)-1]
		if top.next == len(top.at.Args) {
			met[top.at] = left
			way = way[:len(way)-1]
			continue
		}
		top.next++
		x, is := Deref(top.at.Args[top.next-1]).(*Compound)
		if !is || x.fixed {
			continue
		}
		switch met[x] {
		case onTheWay:
			return true
		case left:
		default:
			met[x] = onTheWay
			way = append(way, step{at: x})
		}
	}
	return false
}

// classes: compounds that are taken to be the same, once there are many.
type classes struct {
	met int
	up  map[*Compound]*Compound
}

// same: were the two taken to be the same? From now on they are.
func (c *classes) same(a, b *Compound) bool {
	if c.met < enough {
		c.met++
		return false
	}
	if c.up == nil {
		c.up = map[*Compound]*Compound{}
	}
	a, b = c.root(a), c.root(b)
	if a == b {
		return true
	}
	c.up[a] = b
	return false
}

// root makes the way shorter for the next time.
func (c *classes) root(a *Compound) *Compound {
	for c.up[a] != nil {
		b := c.up[a]
		if c.up[b] != nil {
			c.up[a] = c.up[b]
		}
		a = b
	}
	return a
}
