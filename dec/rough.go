package dec

import (
	"strings"

	"bolter/api"
	"bolter/nat"
)

// rough is a decimal on its way: Neg and Exp stand, what is to be Coef is told in digits, as many as there are, till it is settled.
type rough struct {
	api.Dec
	digits string
}

// settle divides by ten as often as that goes, by leaving out digits. Of 0 there are none left; it has Exp 0, whatever its exponent was.
func (r rough) settle() (api.Dec, api.Errno) {
	kept := strings.TrimRight(r.digits, "0")
	r.Exp += len(r.digits) - len(kept)
	kept = strings.TrimLeft(kept, "0")
	switch {
	case kept == "":
		return api.Dec{}, api.OK
	case len(kept) > api.MaxDigits:
		return api.Dec{}, api.ErrDigits
	case !mayStand(r.Exp):
		return api.Dec{}, api.ErrExp
	}
	r.Coef, _ = nat.Parse(kept)
	return r.Dec, api.OK
}

// The calls of nat below never fail: of decimals that may be, the greatest coefficient that comes up has some 2 * MaxExp + MaxDigits digits, and MaxLimbs have room for more.

// sum adds two decimals, of any signs.
func sum(a, b api.Dec) rough {
	sizes, exp := align(a, b)
	x, y := sizes[0], sizes[1]
	neg := a.Neg
	var size []uint32
	if order, _ := nat.Compare(x, y); a.Neg == b.Neg {
		size, _ = nat.Add(x, y)
	} else if order >= 0 {
		size, _ = nat.Sub(x, y)
	} else {
		neg = b.Neg
		size, _ = nat.Sub(y, x)
	}
	return roughly(neg, size, exp)
}

func product(a, b api.Dec) rough {
	size, _ := nat.Mul(a.Coef, b.Coef)
	return roughly(a.Neg != b.Neg, size, a.Exp+b.Exp)
}

func roughly(neg bool, coef []uint32, exp int) rough {
	digits, _ := nat.Print(coef)
	return rough{api.Dec{Neg: neg, Exp: exp}, digits}
}

// compare answers which of two decimals is above the other.
func compare(a, b api.Dec) int {
	if a.Neg && b.Neg {
		a, b = b, a
	} else if a.Neg {
		return -1
	} else if b.Neg {
		return 1
	}
	sizes, _ := align(a, b)
	order, _ := nat.Compare(sizes[0], sizes[1])
	return order
}

// align answers the coefficients of decimals as they are with the lowest of their exponents, and that exponent.
func align(list ...api.Dec) ([][]uint32, int) {
	lowest := list[0].Exp
	for _, a := range list {
		lowest = min(lowest, a.Exp)
	}
	var sizes [][]uint32
	for _, a := range list {
		sizes = append(sizes, widen(a.Coef, a.Exp-lowest))
	}
	return sizes, lowest
}

// widen answers the coefficient times ten to the power, in memory of its own.
func widen(coef []uint32, power int) []uint32 {
	scale, _ := nat.Pow(power)
	out, _ := nat.Mul(coef, scale)
	return out
}

// opposite answers -a, in memory of its own.
func opposite(a api.Dec) api.Dec {
	return api.Dec{Neg: !a.Neg && len(a.Coef) > 0, Coef: append([]uint32(nil), a.Coef...), Exp: a.Exp}
}
