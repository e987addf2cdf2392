package unify

import (
	"iter"
)

// A class whose shape has itself among its parts is in a loop: no term is such a one.

// isSuspect: may a loop come to be by joining two classes, of which nodes from first on are new?
func isSuspect(c, d class, first int) bool {
	if c.shape == none && d.shape == none {
		return false
	}
	return !c.addsNothing(d, first) && !d.addsNothing(c, first)
}

// addsNothing: all of c is new, and by it nothing comes to stand below d that makes a loop: either d is old
// and had its shape, or c has one too; for a loop of new nodes alone goes through a variable,
// and is found where that was joined to a shape.
func (c class) addsNothing(d class, first int) bool {
	if c.oldest < first || d.shape == none {
		return false
	}
	return d.oldest < first || c.shape != none
}

// search goes from class to class along edges.
type search struct {
	edges func(root int) iter.Seq[int]
	ended map[int]struct{} // the classes, by their roots, from which no way leads into a loop
}

// visit: to a class, or the end of one.
type visit struct {
	root  int
	leave bool
}

// anyInLoop: what one suspect's search found spares the others' theirs.
func (s *Store) anyInLoop(suspects []int) bool {
	down := search{edges: s.below, ended: map[int]struct{}{}}
	up := search{edges: s.above, ended: map[int]struct{}{}}
	for _, id := range suspects {
		if isInLoop(s.root(id), down, up) {
			return true
		}
	}
	return false
}

// isInLoop searches both ways by turns, further each time: a class that is in a loop is so either way,
// and where much stands on one side of it there is often little on the other.
func isInLoop(root int, down, up search) bool {
	for edges := 8; ; edges *= 2 {
		if loop, ended := down.from(root, edges); ended {
			return loop
		}
		if loop, ended := up.from(root, edges); ended {
			return loop
		}
	}
}

// from: does a way lead from a class into a loop? It is not ended if it takes more than so many edges to tell.
func (f search) from(root, edges int) (loop, ended bool) {
	way := map[int]struct{}{}
	work := []visit{{root: root}}
	for len(work) > 0 {
		next := work[len(work)-1]
		work = work[:len(work)-1]
		if next.leave {
			delete(way, next.root)
			f.ended[next.root] = struct{}{}
			continue
		}
		if f.isEnded(next.root) {
			continue
		}
		way[next.root] = struct{}{}
		work = append(work, visit{root: next.root, leave: true})
		for to := range f.edges(next.root) {
			if edges == 0 {
				return false, false
			}
			edges--
			if _, again := way[to]; again {
				return true, true
			}
			if !f.isEnded(to) {
				work = append(work, visit{root: to})
			}
		}
	}
	return false, true
}

func (f search) isEnded(root int) bool {
	_, ended := f.ended[root]
	return ended
}

// below yields the classes of the Args of a class's shape.
func (s *Store) below(root int) iter.Seq[int] {
	return func(yield func(int) bool) {
		shape := s.nodes[root].class.shape
		if shape == none {
			return
		}
		for k := range s.nodes[shape].term.Args {
			if !yield(s.root(s.nodes[shape].first + k)) {
				return
			}
		}
	}
}

// above yields the classes that have one of a class's nodes as an Arg.
func (s *Store) above(root int) iter.Seq[int] {
	return func(yield func(int) bool) {
		for id := root; ; {
			if above := s.nodes[id].above; above != none && !yield(s.root(above)) {
				return
			}
			if id = s.nodes[id].next; id == root {
				return
			}
		}
	}
}
