package cell

// Store knows what was bound, as far as it may have to be taken back: marks are laid, and all that was bound
// behind the newest one can be undone.
type Store struct {
	clock int // how many marks were ever laid
	marks []mark
	trail []*Variable // what was bound that is older than a mark
	tidy  int         // how long the trail was, and how many marks there were, when it was last gone through
	later *union      // what was unified since loops are looked for later; nil, if each unification does that itself
}

// mark: how long the trail was when it was laid, and the time from then on.
type mark struct {
	trail, clock int
}

// enough is how long a walk may be without looking at what it met already: most are shorter, and the rest of a longer one
// is not gone through twice.
const enough = 64

// Variable is a new one.
func (s *Store) Variable() *Variable {
	return &Variable{born: s.clock}
}

// Marks: how many there are.
func (s *Store) Marks() int {
	return len(s.marks)
}

// Mark lays one.
func (s *Store) Mark() {
	s.clock++
	s.marks = append(s.marks, mark{len(s.trail), s.clock})
}

// Back undoes all that was bound behind the newest mark.
func (s *Store) Back() {
	to := s.marks[len(s.marks)-1].trail
	for _, v := range s.trail[to:] {
		v.to = nil
	}
	clear(s.trail[to:])
	s.trail = s.trail[:to]
}

// Keep leaves the first so many marks. What is bound stays.
func (s *Store) Keep(marks int) {
	s.marks = s.marks[:marks]
	if marks == 0 {
		clear(s.trail)
		s.trail, s.tidy = s.trail[:0], 0
	}
}

// Try unifies two terms; if they can't be, nothing is bound.
func (s *Store) Try(x, y Value) bool {
	s.Mark()
	is := s.Unify(x, y)
	if !is {
		s.Back()
	}
	s.Keep(len(s.marks) - 1)
	return is
}

// Bind makes a free variable stand for another term, which it is not within.
// What is younger than the newest mark is not there any more when one goes back to it.
func (s *Store) Bind(v *Variable, to Value) {
	v.to = to
	if len(s.marks) > 0 && v.born < s.marks[len(s.marks)-1].clock {
		s.trail = append(s.trail, v)
		if len(s.trail) > 2*s.tidy+enough {
			s.tidyUp()
		}
	}
}

// tidyUp takes out of the trail what is younger than the mark it lies behind, as many are when marks have gone:
// so a search that goes on and on keeps no more than it can come back to. Nothing lies ahead of the first mark,
// and what was bound last lies behind all.
func (s *Store) tidyUp() {
	kept, behind := 0, 0
	for k, v := range s.trail {
		for behind < len(s.marks) && s.marks[behind].trail <= k {
			s.marks[behind].trail = kept
			behind++
		}
		if v.born < s.marks[behind-1].clock {
			s.trail[kept] = v
			kept++
		}
	}
	clear(s.trail[kept:])
	s.trail = s.trail[:kept]
	s.tidy = kept + len(s.marks)
}
