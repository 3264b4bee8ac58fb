// Package nat is layer 1: numbers from 0 on, of any length, as limbs of 32 bits, the lowest first, the last not 0.
package nat

import "bolter/api"

// Check tells whether a is a number.
func Check(a []uint32) api.Errno {
	if len(a) > api.MaxLimbs {
		return api.ErrLong
	}
	if len(a) > 0 && a[len(a)-1] == 0 {
		return api.ErrState
	}
	return api.OK
}

// From answers n as limbs.
func From(n uint64) []uint32 {
	return trim([]uint32{uint32(n), uint32(n >> limbBits)})
}

// Compare answers -1, 0 or 1: a is below b, is b, is above b.
func Compare(a []uint32, b []uint32) (int, api.Errno) {
	if e := checkBoth(a, b); e != api.OK {
		return 0, e
	}
	return compare(a, b), api.OK
}

// Add answers the sum of a and b.
func Add(a []uint32, b []uint32) ([]uint32, api.Errno) {
	if e := checkBoth(a, b); e != api.OK {
		return nil, e
	}
	return fit(sum(a, b))
}

// Sub answers a less b.
func Sub(a []uint32, b []uint32) ([]uint32, api.Errno) {
	if e := checkBoth(a, b); e != api.OK {
		return nil, e
	}
	if compare(a, b) < 0 {
		return nil, api.ErrRange
	}
	return difference(a, b), api.OK
}

// Mul answers the product of a and b.
func Mul(a []uint32, b []uint32) ([]uint32, api.Errno) {
	if e := checkBoth(a, b); e != api.OK {
		return nil, e
	}
	return fit(product(a, b))
}

// Div answers the quotient of a and b, and the rest.
func Div(a []uint32, b []uint32) ([]uint32, []uint32, api.Errno) {
	if e := checkBoth(a, b); e != api.OK {
		return nil, nil, e
	}
	if len(b) == 0 {
		return nil, nil, api.ErrZero
	}
	quotient, rest := divide(a, b)
	return quotient, rest, api.OK
}

// Root answers the greatest number whose square is not above a.
func Root(a []uint32) ([]uint32, api.Errno) {
	if e := Check(a); e != api.OK {
		return nil, e
	}
	return root(a), api.OK
}

func checkBoth(a, b []uint32) api.Errno {
	if e := Check(a); e != api.OK {
		return e
	}
	return Check(b)
}

// fit hands on a number that was worked out, if it has no more limbs than a number may have.
func fit(a []uint32) ([]uint32, api.Errno) {
	if len(a) > api.MaxLimbs {
		return nil, api.ErrDigits
	}
	return a, api.OK
}

func compare(a, b []uint32) int {
	if len(a) != len(b) {
		return sign(len(a) > len(b))
	}
	for i := len(a) - 1; i >= 0; i-- {
		if a[i] != b[i] {
			return sign(a[i] > b[i])
		}
	}
	return 0
}

func sign(above bool) int {
	if above {
		return 1
	}
	return -1
}

// trim leaves out the limbs that are 0 at the high end.
func trim(a []uint32) []uint32 {
	n := len(a)
	for n > 0 && a[n-1] == 0 {
		n--
	}
	return a[:n]
}

// root comes down from a power of two above the root: each step stays at or above it, so the first that does not come lower stands on it.
func root(a []uint32) []uint32 {
	if len(a) == 0 {
		return nil
	}
	guess := powerOfTwo((bitLen(a) + 1) / 2)
	for {
		quotient, _ := divide(a, guess)
		next := shiftRight(sum(guess, quotient), 1)
		if compare(next, guess) >= 0 {
			return guess
		}
		guess = next
	}
}
