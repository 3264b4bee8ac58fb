package nat

import (
	"iter"
	"slices"

	"bolter/api"
)

const (
	maxPower   = 2400
	maxDigits  = 2400
	groupLen   = 9 // as many decimal digits as any limb can hold
	groupScale = 1_000_000_000
)

// Pow answers ten to the n.
func Pow(n int) ([]uint32, api.Errno) {
	if n < 0 || n > maxPower {
		return nil, api.ErrRange
	}
	out := From(1)
	for size := range groupSizes(n) {
		out = scale(out, smallPower(size), 0)
	}
	return out, api.OK
}

// Parse answers the number that s tells in decimal digits.
func Parse(s string) ([]uint32, api.Errno) {
	if len(s) == 0 {
		return nil, api.ErrShort
	}
	if len(s) > maxDigits {
		return nil, api.ErrLong
	}
	if !allDigits(s) {
		return nil, api.ErrToken
	}
	var out []uint32
	for size := range groupSizes(len(s)) {
		out = scale(out, smallPower(size), smallNumber(s[:size]))
		s = s[size:]
	}
	return out, api.OK
}

// Print answers the decimal digits of a.
func Print(a []uint32) (string, api.Errno) {
	if e := Check(a); e != api.OK {
		return "", e
	}
	if len(a) == 0 {
		return "0", api.OK
	}
	var out []byte
	for group := range groups(a) {
		for range groupLen {
			out = append(out, byte('0'+group%10))
			group /= 10
		}
	}
	for out[len(out)-1] == '0' {
		out = out[:len(out)-1]
	}
	slices.Reverse(out)
	return string(out), api.OK
}

// groupSizes hands out the sizes of the groups that so many digits fall into: whole ones, and what is left over.
func groupSizes(digits int) iter.Seq[int] {
	return func(yield func(int) bool) {
		for left := digits; left > 0; left -= groupLen {
			if !yield(min(left, groupLen)) {
				return
			}
		}
	}
}

// groups hands out the decimal digits of a number in groups, each as a number below groupScale, the lowest first.
func groups(a []uint32) iter.Seq[uint32] {
	return func(yield func(uint32) bool) {
		left := slices.Clone(a)
		for len(left) > 0 {
			var group uint32
			left, group = reduce(left, groupScale)
			if !yield(group) {
				return
			}
		}
	}
}

func allDigits(s string) bool {
	for i := range len(s) {
		if s[i] < '0' || s[i] > '9' {
			return false
		}
	}
	return true
}

// smallPower answers ten to the n, n at most groupLen.
func smallPower(n int) uint32 {
	power := uint32(1)
	for range n {
		power *= 10
	}
	return power
}

// smallNumber answers the number of at most groupLen digits.
func smallNumber(s string) uint32 {
	number := uint32(0)
	for i := range len(s) {
		number = number*10 + uint32(s[i]-'0')
	}
	return number
}
