package impl

import (
	"math/bits"
	"slices"
)

const MaxBits = 5000

const wordSize = 64

const maxWords = (MaxBits + wordSize - 1) / wordSize

type Bits struct {
	N     int
	Words []uint64
}

// word is a copy of one word of a bit vector: its methods may change it
// without changing the vector.
type word uint64

func (w *word) set(i int) { *w |= 1 << i }

func (w *word) at(i int) int { return int(*w >> i & 1) }

func (w *word) flip() { *w = ^*w }

// trim keeps only the first n bits.
func (w *word) trim(n int) { *w &= 1<<n - 1 }

func (w *word) ones() int { return bits.OnesCount64(uint64(*w)) }

// nthOne returns the index of the k-th bit 1. The caller has checked that
// there is one.
func (w *word) nthOne(k int) int {
	for range k {
		// Subtracting 1 changes only the lowest bit 1 and the bits below it.
		*w &= *w - 1
	}
	return bits.TrailingZeros64(uint64(*w))
}

// wordCounts has, for each word, the number of bits 1 in the words before it.
type wordCounts [maxWords + 1]int

func (c *wordCounts) fill(words []uint64) {
	for j, x := range words {
		w := word(x)
		c[j+1] = c[j] + w.ones()
	}
}

// wordsFor expects n in 0..MaxBits, so that the sum cannot overflow.
func wordsFor(n int) int { return (n + wordSize - 1) / wordSize }

func equalBits(v, w Bits) bool { return v.N == w.N && slices.Equal(v.Words, w.Words) }

func isBit(bit int) bool { return bit == 0 || bit == 1 }

func BitsOf(list []int) (Bits, bool) {
	if len(list) > MaxBits {
		return Bits{}, false
	}
	v := Bits{N: len(list), Words: make([]uint64, wordsFor(len(list)))}
	for j := range v.Words {
		end := min((j+1)*wordSize, len(list))
		x, ok := wordOf(list[j*wordSize : end])
		if !ok {
			return Bits{}, false
		}
		v.Words[j] = x
	}
	return v, true
}

func wordOf(list []int) (uint64, bool) {
	var w word
	for i, bit := range list {
		if !isBit(bit) {
			return 0, false
		}
		if bit == 1 {
			w.set(i)
		}
	}
	return uint64(w), true
}

func BitsOk(v Bits) bool {
	if v.N < 0 || v.N > MaxBits || len(v.Words) != wordsFor(v.N) {
		return false
	}
	return v.N%wordSize == 0 || v.Words[v.N/wordSize]>>(v.N%wordSize) == 0
}

func BitsList(v Bits) []int {
	if !BitsOk(v) {
		return nil
	}
	list := make([]int, v.N)
	for i := range list {
		w := word(v.Words[i/wordSize])
		list[i] = w.at(i % wordSize)
	}
	return list
}

func BitAt(v Bits, i int) int {
	if !BitsOk(v) || i < 0 || i >= v.N {
		return -1
	}
	w := word(v.Words[i/wordSize])
	return w.at(i % wordSize)
}

func Rank(v Bits, bit int, i int) int {
	if !BitsOk(v) || !isBit(bit) || i < 0 || i > v.N {
		return -1
	}
	ones := onesBefore(v.Words, i)
	if bit == 0 {
		return i - ones
	}
	return ones
}

func onesBefore(words []uint64, i int) int {
	whole, rest := i/wordSize, i%wordSize
	var before wordCounts
	before.fill(words[:whole])
	if rest == 0 {
		// There may be no word with the index whole.
		return before[whole]
	}
	w := word(words[whole])
	w.trim(rest)
	return before[whole] + w.ones()
}

func Select(v Bits, bit int, k int) int {
	if !BitsOk(v) || !isBit(bit) || k < 0 {
		return -1
	}
	if bit == 0 {
		// The complement has no bits 1 after the last bit, so none of those
		// is taken for a bit 0 of v.
		v = BitsFlip(v)
	}
	return selectOne(v.Words, k)
}

func selectOne(words []uint64, k int) int {
	var before wordCounts
	before.fill(words)
	for j, x := range words {
		if k < before[j+1] {
			w := word(x)
			return j*wordSize + w.nthOne(k-before[j])
		}
	}
	return -1
}

func BitsJoin(v Bits, w Bits) (Bits, bool) {
	if !BitsOk(v) || !BitsOk(w) || v.N+w.N > MaxBits {
		return Bits{}, false
	}
	words := make([]uint64, wordsFor(v.N+w.N))
	copy(words, v.Words)
	first, shift := v.N/wordSize, v.N%wordSize
	for j, x := range w.Words {
		words[first+j] |= x << shift
		// Without a next word, no bit of w is left over for it.
		if first+j+1 < len(words) {
			words[first+j+1] |= x >> (wordSize - shift)
		}
	}
	return Bits{N: v.N + w.N, Words: words}, true
}

func BitsFlip(v Bits) Bits {
	if !BitsOk(v) {
		return Bits{}
	}
	words := make([]uint64, len(v.Words))
	for j, x := range v.Words {
		w := word(x)
		w.flip()
		w.trim(min(wordSize, v.N-j*wordSize))
		words[j] = uint64(w)
	}
	return Bits{N: v.N, Words: words}
}
