package quot

import (
	"bolter/api"
	"bolter/dec"
	"bolter/nat"
)

// cut is a quotient that was cut to a whole number, with what was left over.
type cut struct {
	quotient, rest, divisor []uint32
}

func (c cut) exact() bool {
	return len(c.rest) == 0
}

// toHalf answers -1, 0 or 1: what was left out is below a half of the last place, just a half, above a half.
func (c cut) toHalf() int {
	return sure(nat.Compare(sure(nat.Add(c.rest, c.rest)), c.divisor))
}

func (c cut) odd() bool {
	return len(c.quotient) > 0 && c.quotient[0]%2 == 1
}

// never leaves a quotient as it was cut.
func never(cut) bool {
	return false
}

// ratio divides by a decimal that is not 0. Neither coefficient has 0 behind its digits, so as texts they are in the order of the fractions that they are with a point ahead; from that the place of the quotient's first digit is known before it is worked out.
func ratio(a, b api.Dec) (api.Dec, api.Errno) {
	x, y := digits(a.Coef), digits(b.Coef)
	shift := api.MaxPlaces + len(y) - len(x)
	if x >= y {
		shift--
	}
	coef := divide(widen(a.Coef, shift), widen(b.Coef, -shift), func(c cut) bool {
		half := c.toHalf()
		return half > 0 || half == 0 && c.odd()
	})
	return dec.Settle(a.Neg != b.Neg, coef, a.Exp-b.Exp-shift)
}

// root takes the root of a decimal that is not below 0. A number of twice as many digits as are wanted, or of one fewer, has a root of as many; one of the two leaves an exponent that can be halved.
func root(a api.Dec) (api.Dec, api.Errno) {
	shift := 2*api.MaxPlaces - len(digits(a.Coef))
	if (a.Exp-shift)%2 != 0 {
		shift--
	}
	square := whole(api.Dec{Coef: a.Coef, Exp: shift}, never)
	return dec.Settle(false, sure(nat.Root(square)), (a.Exp-shift)/2)
}

// whole answers the size of a without what stands behind its point, one more if up says so.
func whole(a api.Dec, up func(c cut) bool) []uint32 {
	return divide(widen(a.Coef, a.Exp), widen(nat.From(1), -a.Exp), up)
}

// divide answers the quotient of two numbers as a whole one, one more if up says so. The divisor is not 0.
func divide(a, b []uint32, up func(c cut) bool) []uint32 {
	quotient, rest, _ := nat.Div(a, b)
	if up(cut{quotient, rest, b}) {
		return sure(nat.Add(quotient, nat.From(1)))
	}
	return quotient
}

// widen answers the coefficient times ten to the power, as it is if that is below 0.
func widen(coef []uint32, power int) []uint32 {
	return sure(nat.Mul(coef, sure(nat.Pow(max(power, 0)))))
}

func digits(coef []uint32) string {
	return sure(nat.Print(coef))
}

// sure hands on an answer of nat without its error. There is none: of decimals that may be, no number comes up that has more than MaxDigits + MaxExp digits, and MaxLimbs have room for more.
func sure[T any](answer T, _ api.Errno) T {
	return answer
}
