// Package ones computes the Internet checksum.
package ones

import (
	"iter"
	"slices"

	"ferryhythe/api"
)

// maxWord is the greatest 16-bit word.
const maxWord = 65_535

// Sum returns 65535 minus the ones' complement sum of the bytes.
func Sum(l []int) (int, error) {
	if err := check(l); err != nil {
		return 0, err
	}
	return maxWord - total(words(l)), nil
}

// Good reports whether the ones' complement sum of the bytes is 65535.
func Good(l []int) (bool, error) {
	if err := check(l); err != nil {
		return false, err
	}
	return total(words(l)) == maxWord, nil
}

// Mend returns a checksum after the word was has become the word is.
func Mend(sum, was, is int) (int, error) {
	if !within([]int{sum, was, is}, maxWord) {
		return 0, api.ErrRange
	}
	terms := []int{maxWord - sum, maxWord - was, is}
	return maxWord - total(slices.Values(terms)), nil
}

func check(l []int) error {
	if len(l) > api.MaxBytes {
		return api.ErrFull
	}
	if !within(l, api.MaxByte) {
		return api.ErrRange
	}
	return nil
}

// within reports whether every number is in [0, limit].
func within(l []int, limit int) bool {
	for _, n := range l {
		if n < 0 || n > limit {
			return false
		}
	}
	return true
}

// total returns the ones' complement sum of the words.
func total(words iter.Seq[int]) int {
	sum := 0
	for word := range words {
		sum += word
		if sum > maxWord {
			sum -= maxWord
		}
	}
	return sum
}

// words yields the 16-bit words of the bytes, which must be in [0, MaxByte].
func words(l []int) iter.Seq[int] {
	return func(yield func(int) bool) {
		for high, low := range pairs(l) {
			if !yield(high*(api.MaxByte+1) + low) {
				return
			}
		}
	}
}

// pairs yields the elements two at a time; a last one that is alone is paired with the zero value.
func pairs[T any](l []T) iter.Seq2[T, T] {
	return func(yield func(T, T) bool) {
		for pair := range slices.Chunk(l, 2) {
			var second T
			if len(pair) == 2 {
				second = pair[1]
			}
			if !yield(pair[0], second) {
				return
			}
		}
	}
}
