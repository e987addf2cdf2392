package domain

import (
	"iter"
	"math/bits"
)

// wordBits: how many numbers stand in a word.
const wordBits = 64

// set of numbers from 0 to 127: places in a domain, variables, or constraints, of each of which there are fewer.
type set [2]uint64

// below are the first so many numbers.
func below(count int) set {
	var s set
	for k := range count {
		s.add(k)
	}
	return s
}

func only(k int) set {
	var s set
	s.add(k)
	return s
}

func (s *set) add(k int) {
	s[k/wordBits] |= 1 << (k % wordBits)
}

func (s *set) remove(k int) {
	s[k/wordBits] &^= 1 << (k % wordBits)
}

func (s set) has(k int) bool {
	return s[k/wordBits]>>(k%wordBits)&1 == 1
}

func (s set) isEmpty() bool {
	return s == set{}
}

func (s set) count() int {
	return bits.OnesCount64(s[0]) + bits.OnesCount64(s[1])
}

// least number of a set that has one.
func (s set) least() int {
	if s[0] != 0 {
		return bits.TrailingZeros64(s[0])
	}
	return wordBits + bits.TrailingZeros64(s[1])
}

// all yields its numbers, rising.
func (s set) all() iter.Seq[int] {
	return func(yield func(k int) bool) {
		for word, left := range s {
			for ; left != 0; left &= left - 1 {
				if !yield(word*wordBits + bits.TrailingZeros64(left)) {
					return
				}
			}
		}
	}
}

// with has the numbers of both.
func (s set) with(t set) set {
	return set{s[0] | t[0], s[1] | t[1]}
}

// within has those that are in the other one too.
func (s set) within(t set) set {
	return set{s[0] & t[0], s[1] & t[1]}
}

// without has those that are not in the other one.
func (s set) without(t set) set {
	return set{s[0] &^ t[0], s[1] &^ t[1]}
}
