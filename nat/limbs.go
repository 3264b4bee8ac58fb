package nat

import (
	"iter"
	"math/bits"
	"slices"
)

const limbBits = 32

// pairs hands out the limbs of two numbers side by side, the lowest first, 0 for each that the shorter one lacks.
func pairs(a, b []uint32) iter.Seq2[uint32, uint32] {
	return func(yield func(uint32, uint32) bool) {
		for i := range max(len(a), len(b)) {
			if !yield(limbAt(a, i), limbAt(b, i)) {
				return
			}
		}
	}
}

func limbAt(a []uint32, i int) uint32 {
	if i < len(a) {
		return a[i]
	}
	return 0
}

func sum(a, b []uint32) []uint32 {
	out := make([]uint32, 0, max(len(a), len(b))+1)
	carry := uint64(0)
	for x, y := range pairs(a, b) {
		carry += uint64(x) + uint64(y)
		out = append(out, uint32(carry))
		carry >>= limbBits
	}
	return trim(append(out, uint32(carry)))
}

// difference takes b away from a, which is not below it.
func difference(a, b []uint32) []uint32 {
	out := make([]uint32, 0, len(a))
	borrow := uint64(0)
	for x, y := range pairs(a, b) {
		d := uint64(x) - uint64(y) - borrow
		out = append(out, uint32(d))
		borrow = d >> 63
	}
	return trim(out)
}

func product(a, b []uint32) []uint32 {
	out := make([]uint32, len(a)+len(b))
	for i, x := range a {
		out[i+len(b)] = addMultiple(out[i:i+len(b)], b, x)
	}
	return trim(out)
}

// addMultiple adds b, factor times, to out, which is as long, in place, and answers what is carried out of it.
func addMultiple(out, b []uint32, factor uint32) uint32 {
	carry := uint64(0)
	for i, y := range b {
		carry += uint64(factor)*uint64(y) + uint64(out[i])
		out[i] = uint32(carry)
		carry >>= limbBits
	}
	return uint32(carry)
}

// scale makes a so many times as great and adds more to it, in place as far as its memory goes.
func scale(a []uint32, factor, more uint32) []uint32 {
	carry := uint64(more)
	for i, x := range a {
		carry += uint64(x) * uint64(factor)
		a[i] = uint32(carry)
		carry >>= limbBits
	}
	if carry > 0 {
		a = append(a, uint32(carry))
	}
	return a
}

// reduce makes of a, in place, its quotient by a divisor of one limb, and answers the rest.
func reduce(a []uint32, divisor uint32) ([]uint32, uint32) {
	rest := uint64(0)
	for i := len(a) - 1; i >= 0; i-- {
		rest = rest<<limbBits | uint64(a[i])
		a[i] = uint32(rest / uint64(divisor))
		rest %= uint64(divisor)
	}
	return trim(a), uint32(rest)
}

// divide answers quotient and rest, b not 0, both in memory of their own.
func divide(a, b []uint32) ([]uint32, []uint32) {
	if compare(a, b) < 0 {
		return nil, slices.Clone(a)
	}
	if len(b) == 1 {
		quotient, rest := reduce(slices.Clone(a), b[0])
		return quotient, From(uint64(rest))
	}
	return divideLong(a, b)
}

// divideLong divides by two limbs or more. The divisor's highest bit must be set for a guess from its first limbs to be close: both are moved up for that, which leaves the quotient as it is.
func divideLong(a, b []uint32) ([]uint32, []uint32) {
	shift := bits.LeadingZeros32(b[len(b)-1])
	rest, divisor := shiftLeft(a, shift), trim(shiftLeft(b, shift))
	n := len(divisor)
	quotient := make([]uint32, len(a)-n+1)
	for i := len(quotient) - 1; i >= 0; i-- {
		quotient[i] = takeOut(rest[i:i+n+1], divisor)
	}
	return trim(quotient), shiftRight(rest[:n], shift)
}

// takeOut takes the divisor out of rest, which has one limb more, as often as it goes in, and answers how often. What stands above the lowest limb of rest must be below the divisor. The highest limb stays as it was: what is left would have 0 there, and nobody reads it again.
func takeOut(rest, divisor []uint32) uint32 {
	guess := guessDigit(rest, divisor)
	if takeMultiple(rest, divisor, guess) {
		guess--
		addMultiple(rest[:len(divisor)], divisor, 1)
	}
	return guess
}

// guessDigit tells, from the highest limbs alone, how often the divisor goes into rest, or one more.
func guessDigit(rest, divisor []uint32) uint32 {
	n := len(divisor)
	high, next := uint64(divisor[n-1]), uint64(divisor[n-2])
	top := uint64(rest[n])<<limbBits | uint64(rest[n-1])
	guess, left := top/high, top%high
	for guess>>limbBits > 0 || guess*next > left<<limbBits|uint64(rest[n-2]) {
		guess--
		left += high
		if left>>limbBits > 0 {
			break
		}
	}
	return uint32(guess)
}

// takeMultiple takes the divisor out of rest so many times, below its highest limb, and tells whether that was once too often: the highest limb could not lend what is missing.
func takeMultiple(rest, divisor []uint32, times uint32) bool {
	carry := uint64(0)
	for i, x := range divisor {
		carry += uint64(times) * uint64(x)
		low := uint32(carry)
		carry >>= limbBits
		if rest[i] < low {
			carry++
		}
		rest[i] -= low
	}
	return uint64(rest[len(divisor)]) < carry
}

// shiftLeft moves a up by less than a limb, and answers one limb more than a has.
func shiftLeft(a []uint32, shift int) []uint32 {
	out := make([]uint32, len(a)+1)
	for i, x := range a {
		moved := uint64(x) << shift
		out[i] |= uint32(moved)
		out[i+1] = uint32(moved >> limbBits)
	}
	return out
}

// shiftRight moves a down by less than a limb.
func shiftRight(a []uint32, shift int) []uint32 {
	out := make([]uint32, len(a))
	for i, x := range a {
		moved := uint64(x) << limbBits >> shift
		out[i] |= uint32(moved >> limbBits)
		if i > 0 {
			out[i-1] |= uint32(moved)
		}
	}
	return trim(out)
}

func powerOfTwo(n int) []uint32 {
	out := make([]uint32, n/limbBits+1)
	out[n/limbBits] = 1 << (n % limbBits)
	return out
}

// bitLen answers how many bits a number that is not 0 has.
func bitLen(a []uint32) int {
	return (len(a)-1)*limbBits + bits.Len32(a[len(a)-1])
}
