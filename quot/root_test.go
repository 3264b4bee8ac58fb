package quot

import (
	"math/big"
	"testing"

	"bolter/api"
)

// square answers what the chapter says of a root, from far more of its digits than it has.
func square(a api.Dec) (api.Dec, api.Errno) {
	if a.Neg {
		return api.Dec{}, api.ErrRange
	}
	if len(a.Coef) == 0 {
		return api.Dec{}, api.OK
	}
	n := scaled(a) // at the least 1: its root has 500 digits and more when it is widened so
	text := n.Sqrt(n.Mul(n, ten(api.MaxExp))).String()
	head, _ := new(big.Int).SetString(text[:40], 10)
	return settled(head, len(text)-40-api.MaxExp)
}

func TestP32Sqrt(t *testing.T) {
	met := map[api.Errno]int{}
	decimals(t, func(a api.Dec) {
		want, wantE := square(a)
		met[wantE]++
		got, e := Sqrt(a)
		checkAnswer(t, "Sqrt of "+show(a), got, e, want, wantE)
	})
	for _, e := range []api.Errno{api.OK, api.ErrRange} {
		if met[e] < 300 {
			t.Errorf("error %d came up %d times", e, met[e])
		}
	}
}

// TestP32SqrtAll: every exponent, with digits even and odd in number.
func TestP32SqrtAll(t *testing.T) {
	for exp := -1000; exp <= 1000; exp++ {
		for _, digits := range []string{"1", "2", "99", "121", times("9", 79), times("9", 80), times("9", 81), times("3", 300)} {
			a := made(false, digits, exp)
			want, wantE := square(a)
			got, e := Sqrt(a)
			checkAnswer(t, "Sqrt of "+show(a), got, e, want, wantE)
		}
	}
}

func TestP32SqrtEdges(t *testing.T) {
	root2, root20 := "14142135623730950488016887242096980785696", "44721359549995793928183473374625524708812"
	for _, c := range [][3]string{
		{"0", "0", "0"},
		{"1", "1", "1"},
		{"an even exponent", "4", "2"},
		{"an even exponent above 0", "400", "20"},
		{"an odd exponent", "40000000000", "200000"},
		{"an odd exponent, as it is kept", "1000", "31.62277660168379331998893544432718533719"},
		{"an exact square that has an odd exponent", "2.5e11", "500000"},
		{"an exact square below 1", "0.25", "0.5"},
		{"an exact square far below 1", "0.000001", "0.001"},
		{"an exact square of an odd exponent below 1", "1.6e-5", "0.004"},
		{"an exact square with a fraction", "2.25", "1.5"},
		{"an exact square, its digits odd in number", "152.2756", "12.34"},
		{"an exact square of 80 digits", times("9", 39) + "8" + times("0", 39) + "1", times("9", 40)},
		{"an exact square of 79 digits", "1" + times("0", 38) + "2" + times("0", 38) + "1", "1" + times("0", 38) + "1"},
		{"an exact square of 41 digits' root", times("9", 40) + "8" + times("0", 40) + "1", times("9", 40) + "0"},
		{"less than an exact square", times("9", 39) + "8" + times("0", 40), times("9", 39) + "8"},
		{"2, its 41st digit above 5", "2", root2[:1] + "." + root2[1:40]},
		{"20", "20", root20[:1] + "." + root20[1:40]},
		{"0.2", "0.2", "0." + root20[:40]},
		{"200", "200", root2[:2] + "." + root2[2:40]},
		{"0.02", "0.02", "0." + root2[:40]},
		{"3", "3", "1.732050807568877293527446341505872366942"},
		{"99", "99", "9.949874371066199547344798210012060051781"},
		{"the greatest exponent", "1e1000", "1e500"},
		{"the greatest exponent, no square", "2e1000", root2[:40] + "e461"},
		{"an odd exponent close to the greatest", "2e999", root20[:40] + "e460"},
		{"the least exponent", "1e-1000", "1e-500"},
		{"the least exponent, no square", "2e-1000", root2[:40] + "e-539"},
		{"an odd exponent close to the least", "2e-999", root20[:40] + "e-539"},
		{"300 digits", times("9", 300), times("9", 40) + "e110"},
		{"299 digits", times("9", 299), "3162277660168379331998893544432718533719e110"},
		{"300 digits, the greatest of all", times("9", 300) + "e1000", times("9", 40) + "e610"},
		{"300 digits, the greatest exponent but one", times("9", 300) + "e999", "3162277660168379331998893544432718533719e610"},
		{"300 digits, the least exponent", times("9", 300) + "e-1000", times("9", 40) + "e-390"},
		{"300 digits, an exact square of 150", times("9", 149) + "8" + times("0", 149) + "1", times("9", 40) + "e110"},
	} {
		got, e := Sqrt(read(t, c[1]))
		checkAnswer(t, "Sqrt, "+c[0], got, e, read(t, c[2]), api.OK)
	}
}

func TestP32SqrtBelow(t *testing.T) {
	for _, s := range []string{"-1", "-4", "-0.25", "-1e-1000", "-1e1000", "-" + times("9", 300), "-" + times("9", 300) + "e1000"} {
		got, e := Sqrt(read(t, s))
		checkAnswer(t, "Sqrt of "+s, got, e, api.Dec{}, api.ErrRange)
	}
}

// TestP32Greatest: a root's square is not above the number, and one more in its 40th place is; a square of 40 digits has its root.
func TestP32Greatest(t *testing.T) {
	d := dice(32)
	for range 400 {
		a := d.decimal(1+d.next()%300, 1000)
		a.Neg = false
		r, e := Sqrt(a)
		if e != api.OK {
			t.Fatalf("Sqrt of %s: error %d", show(a), e)
		}
		digits := len(toBig(r.Coef).String())
		if digits > 40 {
			t.Fatalf("Sqrt of %s has %d digits", show(a), digits)
		}
		x, y := scaled(a), scaled(r)
		x.Mul(x, ten(api.MaxExp)) // as wide as a square of scaled ones
		place := ten(api.MaxExp + r.Exp + digits - 40)
		next := new(big.Int).Add(y, place)
		if new(big.Int).Mul(y, y).Cmp(x) > 0 || next.Mul(next, next).Cmp(x) <= 0 {
			t.Errorf("Sqrt of %s: %s", show(a), show(r))
		}
	}
	for range 400 {
		r := d.decimal(1+d.next()%40, 400)
		r.Neg = false
		n := toBig(r.Coef)
		a, e := settled(n.Mul(n, n), 2*r.Exp)
		if e != api.OK {
			t.Fatal("the test's own square:", e)
		}
		got, e := Sqrt(a)
		checkAnswer(t, "Sqrt of "+show(a), got, e, r, api.OK)
	}
}
