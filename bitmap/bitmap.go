// Package bitmap is layer 1: see shared/doc/01-bitmap.md.
package bitmap

import (
	"iter"
	"math/bits"

	"byre/api"
)

const wordBits = 64

// Masks that turn a word for find: whatIs leaves it, whatIsNot turns each bit over.
const (
	whatIs    uint64 = 0
	whatIsNot uint64 = 1<<wordBits - 1
)

// Set is some numbers.
type Set struct {
	size  int
	words []uint64
}

// New makes an empty set for the numbers 0 to n - 1.
func New(n int) *Set {
	if n < 0 {
		n = 0
	}
	if n > api.MaxSet {
		n = api.MaxSet
	}
	return &Set{size: n, words: make([]uint64, (n+wordBits-1)/wordBits)}
}

// Size is for how many numbers the set is made.
func (s *Set) Size() int {
	if s == nil {
		return 0
	}
	return s.size
}

// Len is how many numbers are in the set.
func (s *Set) Len() int {
	if s == nil {
		return 0
	}
	n := 0
	for _, w := range s.words {
		n += bits.OnesCount64(w)
	}
	return n
}

// Has tells whether i is in the set.
func (s *Set) Has(i int) bool {
	return s.owns(i) && s.words[i/wordBits]&bit(i) != 0
}

// Put takes i into the set.
func (s *Set) Put(i int) api.Errno {
	if s == nil {
		return api.ErrNil
	}
	if !s.owns(i) {
		return api.ErrArg
	}
	if s.Has(i) {
		return api.ErrTwice
	}
	s.words[i/wordBits] |= bit(i)
	return api.OK
}

// Take takes i out of the set.
func (s *Set) Take(i int) api.Errno {
	if s == nil {
		return api.ErrNil
	}
	if !s.owns(i) {
		return api.ErrArg
	}
	if !s.Has(i) {
		return api.ErrNone
	}
	s.words[i/wordBits] &^= bit(i)
	return api.OK
}

// Free is the least number from from on that is not in the set.
func (s *Set) Free(from int) (int, bool) {
	return s.find(from, whatIsNot)
}

// Next is the least number from from on that is in the set.
func (s *Set) Next(from int) (int, bool) {
	return s.find(from, whatIs)
}

// Run is the least number from from on from which on many numbers are not in the set.
func (s *Set) Run(from, many int) (int, bool) {
	if many < 1 {
		return 0, false
	}
	for {
		start, ok := s.find(from, whatIsNot)
		if !ok || many > s.size-start {
			return 0, false
		}
		end, ok := s.find(start, whatIs)
		if !ok || end-start >= many {
			return start, true
		}
		from = end
	}
}

// All tells the numbers in the set, rising.
func (s *Set) All() iter.Seq[int] {
	return func(yield func(int) bool) {
		// Looked for anew each time: whoever is told one may put and take.
		for i, ok := s.Next(0); ok; i, ok = s.Next(i + 1) {
			if !yield(i) {
				return
			}
		}
	}
}

// Copy is another set that is the same.
func (s *Set) Copy() *Set {
	if s == nil {
		return nil
	}
	words := make([]uint64, len(s.words))
	copy(words, s.words)
	return &Set{size: s.size, words: words}
}

// owns tells whether i is one of the numbers that the set is made for.
func (s *Set) owns(i int) bool {
	return s != nil && i >= 0 && i < s.size
}

// find is the least number from from on whose bit is 1 once its word is turned.
func (s *Set) find(from int, turn uint64) (int, bool) {
	if from < 0 {
		from = 0
	}
	if !s.owns(from) {
		return 0, false
	}
	at := from / wordBits
	word := (s.words[at] ^ turn) >> uint(from%wordBits) << uint(from%wordBits)
	for word == 0 {
		at++
		if at == len(s.words) {
			return 0, false
		}
		word = s.words[at] ^ turn
	}
	i := at*wordBits + bits.TrailingZeros64(word)
	// The last word has bits behind the set's end, which look free when it is turned.
	if !s.owns(i) {
		return 0, false
	}
	return i, true
}

// bit is the mask of i in its word.
func bit(i int) uint64 {
	return 1 << uint(i%wordBits)
}
