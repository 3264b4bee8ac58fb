package quot

import (
	"math"
	"math/big"
	"slices"
	"strings"
	"testing"

	"bolter/api"
	"bolter/dec"
)

// dice gives numbers that look like chance and are the same in every run.
type dice uint64

func (d *dice) next() int {
	*d = *d*6364136223846793005 + 1442695040888963407
	return int(*d >> 33)
}

// digits gives from one to so many digits, the first and the last not 0; many of those between are 0 or 9.
func (d *dice) digits(most int) string {
	out := make([]byte, 1+d.next()%most)
	for i := range out {
		out[i] = "0000999912345678"[d.next()%16]
	}
	for _, i := range []int{0, len(out) - 1} {
		if out[i] == '0' {
			out[i] = byte('1' + d.next()%9)
		}
	}
	return string(out)
}

// decimal gives a decimal that may be, of at most so many digits and an exponent at most so far from 0.
func (d *dice) decimal(digits, exp int) api.Dec {
	return made(d.next()%2 == 0, d.digits(digits), d.next()%(2*exp+1)-exp)
}

// made puts a decimal together, as it is told, whether it may be or not.
func made(neg bool, digits string, exp int) api.Dec {
	return api.Dec{Neg: neg, Coef: limbs(digits), Exp: exp}
}

// read answers the decimal of a text, which must be right.
func read(t *testing.T, s string) api.Dec {
	t.Helper()
	a, e := dec.Parse(s)
	if e != api.OK {
		t.Fatalf("the test's own number %s: error %d", s, e)
	}
	return a
}

// limbs answers the number of some decimal digits.
func limbs(digits string) []uint32 {
	left, _ := new(big.Int).SetString(digits, 10)
	var out []uint32
	for left.Sign() > 0 {
		out = append(out, uint32(new(big.Int).And(left, big.NewInt(math.MaxUint32)).Uint64()))
		left.Rsh(left, 32)
	}
	return out
}

func toBig(coef []uint32) *big.Int {
	out := new(big.Int)
	for _, x := range slices.Backward(coef) {
		out.Lsh(out, 32).Or(out, big.NewInt(int64(x)))
	}
	return out
}

func ten(power int) *big.Int {
	return new(big.Int).Exp(big.NewInt(10), big.NewInt(int64(power)), nil)
}

// scaled answers a decimal that may be, times ten to the MaxExp: a whole number.
func scaled(a api.Dec) *big.Int {
	out := toBig(a.Coef)
	out.Mul(out, ten(a.Exp+api.MaxExp))
	if a.Neg {
		out.Neg(out)
	}
	return out
}

// exact answers a decimal that may be, as a fraction.
func exact(a api.Dec) *big.Rat {
	return new(big.Rat).SetFrac(scaled(a), ten(api.MaxExp))
}

// settled answers what chapter 2 says of a number times ten to the exp.
func settled(n *big.Int, exp int) (api.Dec, api.Errno) {
	if n.Sign() == 0 {
		return api.Dec{}, api.OK
	}
	all := new(big.Int).Abs(n).String()
	kept := strings.TrimRight(all, "0")
	exp += len(all) - len(kept)
	if len(kept) > api.MaxDigits {
		return api.Dec{}, api.ErrDigits
	}
	if exp < -api.MaxExp || exp > api.MaxExp {
		return api.Dec{}, api.ErrExp
	}
	return made(n.Sign() < 0, kept, exp), api.OK
}

// same tells whether two decimals are the same in each field.
func same(a, b api.Dec) bool {
	return a.Neg == b.Neg && a.Exp == b.Exp && slices.Equal(a.Coef, b.Coef)
}

// isZero tells whether a is what stands beside an error.
func isZero(a api.Dec) bool {
	return !a.Neg && len(a.Coef) == 0 && a.Exp == 0
}

func show(a api.Dec) string {
	sign := "+"
	if a.Neg {
		sign = "-"
	}
	return sign + toBig(a.Coef).String() + " at " + big.NewInt(int64(a.Exp)).String()
}

// checkAnswer holds an answer against the decimal and the error that it should be.
func checkAnswer(t *testing.T, what string, got api.Dec, e api.Errno, want api.Dec, wantE api.Errno) {
	t.Helper()
	if e != wantE || !same(got, want) || e != api.OK && !isZero(got) {
		t.Errorf("%s: %s, error %d, not %s, error %d", what, show(got), e, show(want), wantE)
	}
}

// edges are decimals that may be, at the ends of what may.
func edges() []api.Dec {
	out := []api.Dec{{}, {Coef: []uint32{}}}
	sizes := []string{"1", "2", "3", "5", "7", "9", "15", "25", "99", "125", "4294967295", "4294967296",
		times("9", 40), times("9", 41), "1" + times("0", 39) + "5", times("9", 299), times("9", 300), "1" + times("0", 298) + "1", times("5", 300)}
	for _, digits := range sizes {
		for _, exp := range []int{-1000, -999, -300, -299, -40, -2, -1, 0, 1, 299, 999, 1000} {
			out = append(out, made(false, digits, exp), made(true, digits, exp))
		}
	}
	return out
}

// decimals gives decimals that may be: the edges, then many others.
func decimals(t *testing.T, do func(a api.Dec)) {
	t.Helper()
	for _, a := range edges() {
		do(a)
	}
	d := dice(3)
	for _, most := range [][2]int{{1, 3}, {3, 4}, {3, 20}, {20, 30}, {40, 40}, {82, 80}, {40, 1000}, {300, 1000}, {300, 300}, {300, 5}} {
		for range 150 {
			do(d.decimal(most[0], most[1]))
			if t.Failed() {
				return
			}
		}
	}
}

// pairs gives pairs of decimals that may be: many of the edges with one another, then many others.
func pairs(t *testing.T, do func(a, b api.Dec)) {
	t.Helper()
	for i, a := range edges() {
		for j, b := range edges() {
			if (i*5+j)%23 == 0 || i < 2 || j < 2 {
				do(a, b)
			}
		}
	}
	d := dice(8)
	for _, most := range [][2]int{{1, 1}, {2, 3}, {10, 20}, {40, 60}, {150, 20}, {150, 700}, {300, 300}, {300, 1000}} {
		for range 120 {
			a := d.decimal(most[0], most[1])
			b := d.decimal(most[0], most[1])
			do(a, b)
			do(a, api.Dec{Neg: b.Neg, Coef: a.Coef, Exp: b.Exp})
			do(a, d.decimal(1+d.next()%5, most[1]))
			do(d.decimal(1+d.next()%5, most[1]), b)
			if t.Failed() {
				return
			}
		}
	}
}

// wrong are decimals that may not be.
func wrong() map[string]api.Dec {
	return map[string]api.Dec{
		"0 with Neg":              {Neg: true},
		"0 with an Exp":           {Exp: 1},
		"0 with an Exp below 0":   {Exp: -1},
		"0 with Neg and Exp":      {Neg: true, Coef: []uint32{}, Exp: 7},
		"a limb 0":                {Coef: []uint32{0}},
		"limbs 0":                 {Coef: []uint32{0, 0, 0}},
		"10":                      made(false, "10", 0),
		"-10":                     made(true, "10", 0),
		"100":                     made(false, "100", -2),
		"301 digits":              made(false, "1"+times("0", 299)+"1", 0),
		"301 digits below 0":      made(true, times("9", 301), 0),
		"301 digits, ten divides": made(false, "1"+times("0", 300), 0),
		"2400 digits":             made(false, times("7", 2400), 0),
		"Exp 1001":                made(false, "1", 1001),
		"Exp -1001":               made(false, "1", -1001),
		"Exp the greatest":        made(true, "3", math.MaxInt),
		"Exp the least":           made(false, "3", math.MinInt),
		"0 with Exp the greatest": {Exp: math.MaxInt},
		"0 with Exp the least":    {Exp: math.MinInt},
		"the last limb 0":         {Coef: []uint32{5, 0}},
		"MaxLimbs, full":          {Coef: slices.Repeat([]uint32{math.MaxUint32}, api.MaxLimbs)},
		"more than MaxLimbs":      {Coef: slices.Repeat([]uint32{math.MaxUint32}, api.MaxLimbs+1)},
		"more than MaxLimbs, 0":   {Coef: make([]uint32, api.MaxLimbs+1)},
		"far more than MaxLimbs":  {Coef: slices.Repeat([]uint32{1}, 1<<16)},
		"all wrong":               {Neg: true, Coef: make([]uint32, 300), Exp: -5000},
	}
}

// one and two name the calls of one decimal and of two.
func one() map[string]func(a api.Dec) (api.Dec, api.Errno) {
	return map[string]func(a api.Dec) (api.Dec, api.Errno){"Floor": Floor, "Ceil": Ceil, "Round": Round, "Sqrt": Sqrt, "Abs": Abs}
}

func two() map[string]func(a, b api.Dec) (api.Dec, api.Errno) {
	return map[string]func(a, b api.Dec) (api.Dec, api.Errno){"Div": Div, "Mod": Mod}
}

func times(s string, n int) string {
	return strings.Repeat(s, n)
}
