package unify

import (
	"hornbook/api"
)

// none stands where there is no node, or no variable.
const none = -1

// node is a part of a term that was handed in; nodes that must be the same term are joined to a class.
// Parts that were found to be the same once are not gone through again: so however often
// variables make a part stand in a term, it costs no more than it did when it was handed in.
type node struct {
	term  *api.Term
	first int   // the node of its first Arg; those of the others come behind it
	above int   // the node whose Arg it is; none, if it is nobody's
	next  int   // the nodes of a class stand in a ring
	up    int   // where the way to the class's root goes on; the root's own is itself
	class class // as it was when the node was last a root
}

// class is what is known of nodes that are joined.
type class struct {
	size   int
	oldest int   // the node that was laid first
	shape  int   // a node that is no variable; none, if all are
	free   int64 // the variable that stays, if all are; else none
}

// join is what is needed to take one back.
type join struct {
	child  int
	before class // the other root's
	bound  int64 // the variable that was bound by it, or none
}

// couple: two nodes that must be the same term.
type couple struct {
	a, b int
}

// lay makes nodes of a term and answers the first one.
func (s *Store) lay(t *api.Term) int {
	top := len(s.nodes)
	s.layOne(t, none)
	for id := top; id < len(s.nodes); id++ {
		s.nodes[id].first = len(s.nodes)
		args := s.nodes[id].term.Args
		for k := range args {
			s.layOne(&args[k], id)
		}
	}
	return top
}

func (s *Store) layOne(t *api.Term, above int) {
	id := len(s.nodes)
	c := class{size: 1, oldest: id, shape: id, free: none}
	same, met := id, false
	if t.Kind == api.Var {
		c.shape = none
		if same, met = s.known[t.N]; !met {
			c.free = t.N
			s.known[t.N] = id
		}
	}
	s.nodes = append(s.nodes, node{term: t, above: above, next: id, up: id, class: c})
	if met {
		s.join(s.root(same), id)
	}
}

// root: the way to it is short, as the smaller class is always put below the greater one.
func (s *Store) root(id int) int {
	for s.nodes[id].up != id {
		id = s.nodes[id].up
	}
	return id
}

// join makes one class of those of two roots.
func (s *Store) join(a, b int) {
	if s.nodes[a].class.size < s.nodes[b].class.size {
		a, b = b, a
	}
	before := s.nodes[a].class
	both, bound := before.with(s.nodes[b].class)
	s.joins = append(s.joins, join{child: b, before: before, bound: bound})
	if bound != none {
		s.bound[bound] = struct{}{}
	}
	s.nodes[b].up = a
	s.nodes[a].class = both
	s.swapNext(a, b)
}

// with is the class of both together, and the variable that is bound by it, or none.
func (c class) with(d class) (both class, bound int64) {
	both = class{size: c.size + d.size, oldest: min(c.oldest, d.oldest), shape: max(c.shape, d.shape)}
	both.free, bound = min(c.free, d.free), max(c.free, d.free)
	if both.shape == none && both.free == none {
		// One of them is another place of a variable that the other has already.
		both.free, bound = bound, none
	}
	return both, bound
}

// swapNext makes one ring of two, and two of one again.
func (s *Store) swapNext(a, b int) {
	s.nodes[a].next, s.nodes[b].next = s.nodes[b].next, s.nodes[a].next
}

// takeBack makes nodes and classes what they were.
func (s *Store) takeBack(m moment) {
	for len(s.joins) > m.joins {
		s.takeApart(s.joins[len(s.joins)-1])
		s.joins = s.joins[:len(s.joins)-1]
	}
	for id := m.nodes; id < len(s.nodes); id++ {
		if t := s.nodes[id].term; t.Kind == api.Var && s.known[t.N] >= m.nodes {
			delete(s.known, t.N)
		}
	}
	// The terms of what is gone are not held on to.
	clear(s.nodes[m.nodes:])
	s.nodes = s.nodes[:m.nodes]
}

func (s *Store) takeApart(j join) {
	parent := s.nodes[j.child].up
	s.swapNext(parent, j.child)
	s.nodes[parent].class = j.before
	s.nodes[j.child].up = j.child
	if j.bound != none {
		delete(s.bound, j.bound)
	}
}

// close joins what must be the same if the couples are; false, if two shapes differ.
// Nodes from first on are new. A loop that comes to be goes through the class of a suspect.
func (s *Store) close(work []couple, first int) (suspects []int, ok bool) {
	for len(work) > 0 {
		next := work[len(work)-1]
		work = work[:len(work)-1]
		a, b := s.root(next.a), s.root(next.b)
		if a == b {
			continue
		}
		c, d := s.nodes[a].class, s.nodes[b].class
		if c.shape != none && d.shape != none {
			if !s.alike(c.shape, d.shape) {
				return nil, false
			}
			work = s.appendArgs(work, c.shape, d.shape)
		}
		s.join(a, b)
		if isSuspect(c, d, first) {
			suspects = append(suspects, a)
		}
	}
	return suspects, true
}

// alike looks at the two alone, not at their Args.
func (s *Store) alike(a, b int) bool {
	t, u := s.nodes[a].term, s.nodes[b].term
	return t.Kind == u.Kind && t.N == u.N && t.Name == u.Name && len(t.Args) == len(u.Args)
}

func (s *Store) appendArgs(work []couple, a, b int) []couple {
	for k := range s.nodes[a].term.Args {
		work = append(work, couple{s.nodes[a].first + k, s.nodes[b].first + k})
	}
	return work
}
