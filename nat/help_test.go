package nat

import (
	"math/big"
	"slices"
	"strings"
	"testing"

	"bolter/api"
)

// dice gives numbers that look like chance and are the same in every run.
type dice uint64

func (d *dice) next() uint32 {
	*d = *d*6364136223846793005 + 1442695040888963407
	return uint32(*d >> 33)
}

// number gives a number of at most so many limbs; many of its limbs are such as make carries, borrows and guesses go wrong.
func (d *dice) number(most int) []uint32 {
	a := make([]uint32, d.next()%uint32(most+1))
	for i := range a {
		switch d.next() % 6 {
		case 0:
			a[i] = 0
		case 1:
			a[i] = 0xffffffff
		case 2:
			a[i] = 0x80000000
		case 3:
			a[i] = 1
		default:
			a[i] = d.next()<<16 ^ d.next()
		}
	}
	if n := len(a); n > 0 && a[n-1] == 0 {
		a[n-1] = 1
	}
	return a
}

// numbers gives pairs of numbers: the edges with one another, then many others.
func numbers(t *testing.T, do func(a, b []uint32)) {
	edges := [][]uint32{nil, {}, {1}, {2}, {10}, {0xffffffff}, {0, 1}, {1, 1}, {0xffffffff, 0xffffffff}, {0, 0, 1},
		{0, 0xfffffffe, 0x80000000}, {0xffffffff, 0x80000000}, {3, 0, 0x80000000}, {1, 0, 0x20000000},
		full(api.MaxLimbs), full(api.MaxLimbs / 2), top(api.MaxLimbs), full(api.MaxLimbs - 1)}
	for _, a := range edges {
		for _, b := range edges {
			do(a, b)
		}
	}
	d := dice(11)
	for _, most := range []int{2, 3, 5, 9, 40, api.MaxLimbs} {
		for range 300 {
			do(d.number(most), d.number(most))
			if t.Failed() {
				return
			}
		}
	}
}

// full is the greatest number of n limbs.
func full(n int) []uint32 {
	return slices.Repeat([]uint32{0xffffffff}, n)
}

// top is the least number of n limbs.
func top(n int) []uint32 {
	a := make([]uint32, n)
	a[n-1] = 1
	return a
}

// tooLong has a limb too many, and its last limb is 0 too: of its two faults the first one is to be told.
func tooLong() []uint32 {
	return make([]uint32, api.MaxLimbs+1)
}

// zeroEnded is no number for its last limb alone.
func zeroEnded() []uint32 {
	return []uint32{5, 0}
}

func toBig(a []uint32) *big.Int {
	out := new(big.Int)
	for _, x := range slices.Backward(a) {
		out.Lsh(out, 32).Or(out, big.NewInt(int64(x)))
	}
	return out
}

// same tells whether a is the number want, in the only form that it may have.
func same(a []uint32, want *big.Int) bool {
	return Check(a) == api.OK && toBig(a).Cmp(want) == 0
}

func digits(c string, n int) string {
	return strings.Repeat(c, n)
}
