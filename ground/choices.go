package ground

import (
	"iter"
	"math/bits"
)

// word: how many choices stand in a number.
const word = 64

// choices: a set of numbers, each of which is a choice of which variables of a clause are ground: v is, if the bit of worth 2^v is 1.
// Each takes a bit, as every goal of every clause has such a set.
type choices [1 << mostVars / word]uint64

// allGround are the choices with which all variables of a mask are ground.
func allGround(mask int) choices {
	var s choices
	for choice := range 1 << mostVars {
		if choice&mask == mask {
			s.add(choice)
		}
	}
	return s
}

func (s *choices) add(choice int) {
	s[choice/word] |= 1 << (choice % word)
}

// bit is 1 if a choice is among them, else 0.
func (s *choices) bit(choice int) int {
	return int(s[choice/word] >> (choice % word) & 1)
}

// all yields each of them, rising.
func (s *choices) all() iter.Seq[int] {
	return func(yield func(choice int) bool) {
		for k, left := range s {
			for ; left != 0; left &= left - 1 {
				if !yield(k*word + bits.TrailingZeros64(left)) {
					return
				}
			}
		}
	}
}

func (s *choices) join(other *choices) {
	for k, x := range other {
		s[k] |= x
	}
}

func (s *choices) keep(other *choices) {
	for k, x := range other {
		s[k] &= x
	}
}

func (s *choices) remove(other *choices) {
	for k, x := range other {
		s[k] &^= x
	}
}
