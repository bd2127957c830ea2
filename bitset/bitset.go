// Package bitset has sets of small numbers, as words: see ../../shared/DOC.md and doc/01-bitset.md.
package bitset

import (
	"math/bits"

	"ganglion/api"
)

const (
	wordBits  = 64
	mostWords = api.MaxBits / wordBits
)

// Of is the set of those numbers of l that may be in one.
func Of(l ...int) []uint64 {
	var words []uint64
	for _, n := range l {
		if n < 0 || n >= api.MaxBits {
			continue
		}
		for len(words) <= n/wordBits {
			words = append(words, 0)
		}
		words[n/wordBits] |= 1 << (n % wordBits)
	}
	return words
}

// Has tells whether n is in s.
func Has(s []uint64, n int) bool {
	if n < 0 || n >= api.MaxBits {
		return false
	}
	return wordAt(s, n/wordBits)>>(n%wordBits)&1 == 1
}

// List has the numbers of s, rising.
func List(s []uint64) []int {
	l := make([]int, 0, Count(s))
	for i, w := range spoken(s) {
		for ; w != 0; w &= w - 1 {
			l = append(l, numberOf(i, w))
		}
	}
	return l
}

// Count is how many numbers s has.
func Count(s []uint64) int {
	sum := 0
	for _, w := range spoken(s) {
		sum += bits.OnesCount64(w)
	}
	return sum
}

// Next is the least number of s that is n or more, if there is one.
func Next(s []uint64, n int) (int, bool) {
	n = max(n, 0)
	s = spoken(s)
	from := n / wordBits
	for i := from; i < len(s); i++ {
		w := s[i]
		if i == from {
			w = w >> (n % wordBits) << (n % wordBits)
		}
		if w != 0 {
			return numberOf(i, w), true
		}
	}
	return 0, false
}

// Union has what is in a or in b.
func Union(a, b []uint64) []uint64 {
	return wordByWord(a, b, func(x, y uint64) uint64 { return x | y })
}

// Meet has what is in both a and b.
func Meet(a, b []uint64) []uint64 {
	return wordByWord(a, b, func(x, y uint64) uint64 { return x & y })
}

// Less has what is in a and not in b.
func Less(a, b []uint64) []uint64 {
	return wordByWord(a, b, func(x, y uint64) uint64 { return x &^ y })
}

// wordByWord puts two sets together as how says, and makes the outcome short.
func wordByWord(a, b []uint64, how func(x, y uint64) uint64) []uint64 {
	words := make([]uint64, max(len(spoken(a)), len(spoken(b))))
	for i := range words {
		words[i] = how(wordAt(a, i), wordAt(b, i))
	}
	for len(words) > 0 && words[len(words)-1] == 0 {
		words = words[:len(words)-1]
	}
	return words
}

// spoken leaves out the words that say nothing, since no number stands so far behind.
func spoken(s []uint64) []uint64 {
	return s[:min(len(s), mostWords)]
}

// wordAt is the word at place i; behind the last one all are empty.
func wordAt(s []uint64, i int) uint64 {
	if i >= len(s) {
		return 0
	}
	return s[i]
}

// numberOf is the number that the lowest bit of w, the word at place i, stands for.
func numberOf(i int, w uint64) int {
	return i*wordBits + bits.TrailingZeros64(w)
}
