package model

// run adds what follows by a plan. It is no recursion, as a rule may have more goals than calls can be within one another.
func (p *plan) run() {
	if p.fixed == none && p.isTold() {
		return
	}
	depth, last := 0, len(p.steps)-1
	p.steps[0].open(p)
	for depth >= 0 {
		s := &p.steps[depth]
		switch {
		case !s.next(p):
			depth--
		case p.wasHere(s), depth == p.fixed && depth < last && p.isTold():
			// Nothing new can come of going on.
		case depth < last:
			depth++
			p.steps[depth].open(p)
		default:
			p.head.add(p.told())
			// Behind that step there are only other ways to tell the same.
			depth = p.fixed
		}
	}
	p.forget()
}

// told is the fact that the head is now.
func (p *plan) told() []byte {
	p.text = write(p.text[:0], p.fact, p.slots)
	return p.text
}

func (p *plan) isTold() bool {
	return p.head.has(p.told())
}

// write the numbers of what stands in some Args.
func write(text []byte, list []source, slots []uint32) []byte {
	for _, x := range list {
		text = appendNumber(text, x.value(slots))
	}
	return text
}

func (x source) value(slots []uint32) uint32 {
	if x.slot == none {
		return x.number
	}
	return slots[x.slot]
}

// open has a step begin.
func (s *step) open(p *plan) {
	s.at, s.end = 0, s.from.done
	if s.older {
		s.end = s.from.older
	}
	if s.way == scan || s.way == fresh {
		return
	}
	s.text = write(s.text[:0], s.key, p.slots)
	if s.way == chain {
		s.at = int(s.by.first(s.text))
		return
	}
	row, is := s.from.facts[string(s.text)]
	if is = is && int(row) < s.end; is == (s.way == absent) {
		s.at = none
	}
}

// next goes on to the next fact by which the goal is true; false, if there is none left.
func (s *step) next(p *plan) bool {
	if s.way == exact || s.way == absent {
		is := s.at != none
		s.at = none
		return is
	}
	for s.at != none {
		row := s.take(p)
		if row != none && s.fits(s.from.rows[row], p.slots) {
			if s.once {
				s.at = none
			}
			return true
		}
	}
	return false
}

// take gives the next row; or none, and there is none left then, or another one is to be taken.
func (s *step) take(p *plan) int {
	row := s.at
	switch {
	case s.way == chain:
		s.at = int(s.by.before[row])
		if row < s.end {
			return row
		}
	case s.way == scan && row < s.end:
		s.at++
		return row
	case s.way == fresh && row < len(p.fresh):
		s.at++
		return int(p.fresh[row])
	default:
		s.at = none
	}
	return none
}

// fits: is a fact such as the goal? Then its variables are what it says.
func (s *step) fits(fact string, slots []uint32) bool {
	for _, c := range s.fills {
		slots[c.slot] = numberAt(fact, c.at)
	}
	for _, c := range s.checks {
		if numberAt(fact, c.at) != c.value(slots) {
			return false
		}
	}
	return true
}

// memo: how those variables were, that are still asked for, whenever a step was done. To go on from there again would tell nothing new.
// It may forget.
type memo struct {
	slots []int
	seen  map[string]struct{}
	text  []byte
}

const (
	widest   = 32      // so many variables are hardly ever the same again
	mostKept = 1 << 20 // bounds the room that the memos of a plan take
)

func (p *plan) wasHere(s *step) bool {
	m := s.memo
	if m == nil {
		return false
	}
	m.text = m.text[:0]
	for _, slot := range m.slots {
		m.text = appendNumber(m.text, p.slots[slot])
	}
	if _, is := m.seen[string(m.text)]; is {
		return true
	}
	if p.kept >= mostKept {
		p.forget()
	}
	if m.seen == nil {
		m.seen = map[string]struct{}{}
	}
	m.seen[string(m.text)] = struct{}{}
	p.kept++
	return false
}

// forget what all memos have: it holds for one run.
func (p *plan) forget() {
	if p.kept == 0 {
		return
	}
	p.kept = 0
	for k := range p.steps {
		if m := p.steps[k].memo; m != nil {
			m.seen = nil
		}
	}
}
