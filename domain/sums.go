package domain

import "math/bits"

// sums are numbers that were met since begin. Each lies in a cell that hangs on it, or in the next one that was free; those that were
// met ahead of begin stay where they are, with another turn: so it costs nothing to begin, however much room there is.
type sums struct {
	cells []cell
	bits  int // of how many the place of a cell has
	turn  int64
}

type cell struct {
	sum  int64
	turn int64
}

// begin anew, for so many at most.
func (s *sums) begin(most int) {
	s.turn++
	s.bits = bits.Len(uint(most)) + 1
	if len(s.cells) < 1<<s.bits {
		s.cells = make([]cell, 1<<s.bits)
	}
}

func (s *sums) add(sum int64) {
	s.cells[s.at(sum)] = cell{sum, s.turn}
}

func (s *sums) has(sum int64) bool {
	return s.cells[s.at(sum)].turn == s.turn
}

// at is where a sum lies, or would.
func (s *sums) at(sum int64) int {
	k := int(mixed(uint64(sum)) >> (wordBits - s.bits))
	for s.cells[k].turn == s.turn && s.cells[k].sum != sum {
		k = (k + 1) & (1<<s.bits - 1)
	}
	return k
}

// mixed has other high bits for numbers that differ by some step, whatever that step is: sums have few steps between them.
func mixed(n uint64) uint64 {
	const odd, other = 0x9E3779B97F4A7C15, 0xBF58476D1CE4E5B9
	n *= odd
	n ^= n >> 32
	return n * other
}
