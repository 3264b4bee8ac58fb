package dec

import (
	"math"
	"math/big"
	"slices"
	"testing"

	"bolter/api"
)

func TestP21Check(t *testing.T) {
	for name, a := range wrong() {
		if e := Check(a); e != api.ErrState {
			t.Errorf("Check, %s: %d", name, e)
		}
	}
	decimals(t, func(a api.Dec) {
		if e := Check(a); e != api.OK {
			t.Errorf("Check of %s: %d", show(a), e)
		}
	})
	for name, a := range map[string]api.Dec{
		"0":               {},
		"0, empty":        {Coef: []uint32{}},
		"300 digits":      made(true, times("9", 300), 0),
		"300, 0 between":  made(false, "1"+times("0", 298)+"1", 0),
		"Exp -1000":       made(false, "1", -1000),
		"Exp 1000":        made(false, "1", 1000),
		"both at once":    made(true, times("1", 300), 1000),
		"a lowest limb 0": {Coef: []uint32{0, 1}}, // 2^32
		"2^992":           {Coef: append(make([]uint32, 31), 1)},
	} {
		if e := Check(a); e != api.OK {
			t.Errorf("Check, %s: %d", name, e)
		}
	}
}

func show(a api.Dec) string {
	sign := "+"
	if a.Neg {
		sign = "-"
	}
	return sign + toBig(a.Coef).String() + " at " + big.NewInt(int64(a.Exp)).String()
}

func TestP21Int(t *testing.T) {
	ints := []int{0, 1, -1, 9, 10, -10, 11, 100, 1000000, -1000000, 1 << 31, 1 << 32, -1 << 32, 1<<53 - 1, 1 << 53, -1 << 53,
		1_000_000_000_000_000_000, -1_000_000_000_000_000_000, math.MaxInt, math.MinInt, math.MinInt + 1}
	for n := -1100; n < 1100; n++ {
		ints = append(ints, n)
	}
	for _, n := range ints {
		want, _ := settled(big.NewInt(int64(n)), 0)
		if a := Int(n); !same(a, want) {
			t.Errorf("Int(%d): %s", n, show(a))
		}
	}
	if a := Int(-1500); !same(a, api.Dec{Neg: true, Coef: []uint32{15}, Exp: 2}) {
		t.Error("Int(-1500):", show(a))
	}
}

// checkAnswer holds an answer against the decimal and the error that it should be.
func checkAnswer(t *testing.T, what string, got api.Dec, e api.Errno, want api.Dec, wantE api.Errno) {
	t.Helper()
	if e != wantE || !same(got, want) || e != api.OK && !isZero(got) {
		t.Errorf("%s: %s, error %d, not %s, error %d", what, show(got), e, show(want), wantE)
	}
}

func TestP21Settle(t *testing.T) {
	exps := []int{-4000, -3999, -2467, -2466, -2400, -1301, -1300, -1299, -1001, -1000, -999, -300, -1, 0, 1, 700, 999, 1000, 1001, 3999, 4000}
	d := dice(21)
	for _, most := range []int{1, 5, 40, 299, 320, 1200} {
		for range 60 {
			digits := d.digits(most) + times("0", d.next()%1200)
			n, _ := new(big.Int).SetString(digits, 10)
			for _, exp := range append(exps, -len(digits), 1000-len(digits), d.next()%2001-1000) {
				want, wantE := settled(n, exp)
				got, e := Settle(false, limbs(digits), exp)
				checkAnswer(t, "Settle of "+digits, got, e, want, wantE)
				want.Neg = wantE == api.OK
				got, e = Settle(true, limbs(digits), exp)
				checkAnswer(t, "Settle of -"+digits, got, e, want, wantE)
			}
		}
	}
}

func TestP21SettleEdges(t *testing.T) {
	long := "1" + times("0", 299) + "1"
	for _, c := range []struct {
		name   string
		digits string
		exp    int
		want   string
		at     int
		wantE  api.Errno
	}{
		{"10 once", "10", 0, "1", 1, api.OK},
		{"a lot of 0", "120000", -4, "12", 0, api.OK},
		{"0 between", "10203", 5, "10203", 5, api.OK},
		{"lowest", "1", -1000, "1", -1000, api.OK},
		{"below lowest", "1", -1001, "", 0, api.ErrExp},
		{"divided up to the lowest", "10", -1001, "1", -1000, api.OK},
		{"divided, still below", "100", -1003, "", 0, api.ErrExp},
		{"highest", "1", 1000, "1", 1000, api.OK},
		{"above highest", "1", 1001, "", 0, api.ErrExp},
		{"divided above the highest", "10", 1000, "", 0, api.ErrExp},
		{"divided up to the highest", "10", 999, "1", 1000, api.OK},
		{"300 digits", times("3", 300), 0, times("3", 300), 0, api.OK},
		{"300 digits and 0 behind", times("3", 300) + times("0", 900), -1900, times("3", 300), -1000, api.OK},
		{"301 digits", long, 0, "", 0, api.ErrDigits},
		{"301 digits and 0 behind", long + "000", 0, "", 0, api.ErrDigits},
		{"10^300", "1" + times("0", 300), 0, "1", 300, api.OK},
		{"digits ahead of the exponent", long, 1001, "", 0, api.ErrDigits},
		{"digits ahead of the exponent, below", long, -1001, "", 0, api.ErrDigits},
		{"exp at its highest, 1", "1", 4000, "", 0, api.ErrExp},
		{"exp at its lowest, 1", "1", -4000, "", 0, api.ErrExp},
		{"exp at its highest", long, 4000, "", 0, api.ErrDigits},
		{"exp above its highest", long, 4001, "", 0, api.ErrExp},
		{"exp at its lowest", long, -4000, "", 0, api.ErrDigits},
		{"exp below its lowest", long, -4001, "", 0, api.ErrExp},
		{"0, exp at its highest", "0", 4000, "0", 0, api.OK},
		{"0, exp above its highest", "0", 4001, "", 0, api.ErrExp},
		{"0, exp at its lowest", "0", -4000, "0", 0, api.OK},
		{"0, exp below its lowest", "0", -4001, "", 0, api.ErrExp},
		{"exp the greatest", "10", math.MaxInt, "", 0, api.ErrExp},
		{"exp the least", "10", math.MinInt, "", 0, api.ErrExp},
		{"10^2400", "1" + times("0", 2400), -2400, "1", 0, api.OK},
		{"10^2466, of MaxLimbs limbs", "1" + times("0", 2466), -2466, "1", 0, api.OK},
		{"10^2466, down to the lowest", "1" + times("0", 2466), -3466, "1", -1000, api.OK},
		{"10^2466, below the lowest", "1" + times("0", 2466), -3467, "", 0, api.ErrExp},
	} {
		for _, neg := range []bool{false, true} {
			want := api.Dec{}
			if c.wantE == api.OK && c.want != "0" {
				want = made(neg, c.want, c.at)
			}
			got, e := Settle(neg, limbs(c.digits), c.exp)
			checkAnswer(t, "Settle, "+c.name, got, e, want, c.wantE)
		}
	}
}

// TestP21SettleWrong: what is no number is told ahead of an exp that is out of range.
func TestP21SettleWrong(t *testing.T) {
	for _, exp := range []int{0, 4000, 4001, -4001, math.MaxInt, math.MinInt} {
		for _, c := range []struct {
			name string
			coef []uint32
			want api.Errno
		}{
			{"too long", slices.Repeat([]uint32{1}, api.MaxLimbs+1), api.ErrLong},
			{"too long, its last limb 0", make([]uint32, api.MaxLimbs+1), api.ErrLong},
			{"the last limb 0", []uint32{10, 0}, api.ErrState},
			{"0 with a limb", []uint32{0}, api.ErrState},
		} {
			got, e := Settle(true, c.coef, exp)
			checkAnswer(t, "Settle, "+c.name, got, e, api.Dec{}, c.want)
		}
	}
	for _, coef := range [][]uint32{nil, {}} {
		got, e := Settle(true, coef, 3)
		checkAnswer(t, "Settle, 0 with neg", got, e, api.Dec{}, api.OK)
	}
}

func TestP21Compare(t *testing.T) {
	pairs(t, func(a, b api.Dec) {
		if n, e := Compare(a, b); e != api.OK || n != scaled(a).Cmp(scaled(b)) {
			t.Errorf("Compare of %s and %s: %d, error %d", show(a), show(b), n, e)
		}
		if n, e := Compare(a, api.Dec{Neg: a.Neg, Coef: slices.Clone(a.Coef), Exp: a.Exp}); e != api.OK || n != 0 {
			t.Errorf("Compare of %s and itself: %d, error %d", show(a), n, e)
		}
	})
}

// checkPairs holds the answers of a call against the numbers that they should be, or against the errors that these are settled with; all of that must come up.
func checkPairs(t *testing.T, name string, call func(a, b api.Dec) (api.Dec, api.Errno), exp int, want func(x, y *big.Int) *big.Int) {
	t.Helper()
	met := map[api.Errno]int{}
	pairs(t, func(a, b api.Dec) {
		t.Helper()
		right, rightE := settled(want(scaled(a), scaled(b)), exp)
		met[rightE]++
		got, e := call(a, b)
		checkAnswer(t, name+" of "+show(a)+" and "+show(b), got, e, right, rightE)
	})
	for _, e := range []api.Errno{api.OK, api.ErrDigits, api.ErrExp} {
		if met[e] < 10 {
			t.Errorf("%s: error %d came up %d times", name, e, met[e])
		}
	}
}

func TestP21AddP23(t *testing.T) {
	checkPairs(t, "Add", Add, -1000, func(x, y *big.Int) *big.Int { return new(big.Int).Add(x, y) })
}

func TestP21SubP23(t *testing.T) {
	checkPairs(t, "Sub", Sub, -1000, func(x, y *big.Int) *big.Int { return new(big.Int).Sub(x, y) })
}

func TestP21MulP23(t *testing.T) {
	checkPairs(t, "Mul", Mul, -2000, func(x, y *big.Int) *big.Int { return new(big.Int).Mul(x, y) })
}

func TestP21Sums(t *testing.T) {
	nines := made(false, times("9", 300), 0)
	one, five, highest, lowest := made(false, "1", 0), made(false, "5", 0), made(false, "1", 1000), made(false, "1", -1000)
	minusOne := made(true, "1", 0)
	for _, c := range []struct {
		name  string
		call  func(a, b api.Dec) (api.Dec, api.Errno)
		a, b  api.Dec
		want  api.Dec
		wantE api.Errno
	}{
		{"1.5 + 0.5", Add, made(false, "15", -1), made(false, "5", -1), made(false, "2", 0), api.OK},
		{"5 + 5", Add, five, five, made(false, "1", 1), api.OK},
		{"1 + -1", Add, one, minusOne, api.Dec{}, api.OK},
		{"-1 + 1", Add, minusOne, one, api.Dec{}, api.OK},
		{"-1 + 5", Add, minusOne, five, made(false, "4", 0), api.OK},
		{"1 + -5", Add, one, made(true, "5", 0), made(true, "4", 0), api.OK},
		{"-1 + -5", Add, minusOne, made(true, "5", 0), made(true, "6", 0), api.OK},
		{"0 + 0", Add, api.Dec{}, api.Dec{}, api.Dec{}, api.OK},
		{"0 + -1", Add, api.Dec{}, minusOne, minusOne, api.OK},
		{"-1 + 0", Add, minusOne, api.Dec{}, minusOne, api.OK},
		{"300 times 9, + 1", Add, nines, one, made(false, "1", 300), api.OK},
		{"300 times 9, + 2", Add, nines, made(false, "2", 0), api.Dec{}, api.ErrDigits},
		{"1 and 10^300", Add, one, made(false, "1", 300), api.Dec{}, api.ErrDigits},
		{"1 and 10^299", Add, one, made(false, "1", 299), made(false, "1"+times("0", 298)+"1", 0), api.OK},
		{"highest + lowest", Add, highest, lowest, api.Dec{}, api.ErrDigits},
		{"9e1000 + 1e1000", Add, made(false, "9", 1000), highest, api.Dec{}, api.ErrExp},
		{"9e999 + 1e999", Add, made(false, "9", 999), made(false, "1", 999), highest, api.OK},
		{"5e-1000 + 5e-1000", Add, made(false, "5", -1000), made(false, "5", -1000), made(false, "1", -999), api.OK},
		{"1 - 1", Sub, one, one, api.Dec{}, api.OK},
		{"-1 - -1", Sub, minusOne, minusOne, api.Dec{}, api.OK},
		{"0 - 0", Sub, api.Dec{}, api.Dec{}, api.Dec{}, api.OK},
		{"0 - 1", Sub, api.Dec{}, one, minusOne, api.OK},
		{"0 - -1", Sub, api.Dec{}, minusOne, one, api.OK},
		{"1 - 5", Sub, one, five, made(true, "4", 0), api.OK},
		{"5 - -5", Sub, five, made(true, "5", 0), made(false, "1", 1), api.OK},
		{"highest - highest", Sub, highest, highest, api.Dec{}, api.OK},
		{"highest - -9e1000", Sub, highest, made(true, "9", 1000), api.Dec{}, api.ErrExp},
		{"lowest - highest", Sub, lowest, highest, api.Dec{}, api.ErrDigits},
		{"2 * 5", Mul, made(false, "2", 0), five, made(false, "1", 1), api.OK},
		{"-1 * 5", Mul, minusOne, five, made(true, "5", 0), api.OK},
		{"-1 * -1", Mul, minusOne, minusOne, one, api.OK},
		{"0 * -1", Mul, api.Dec{}, minusOne, api.Dec{}, api.OK},
		{"-1 * 0", Mul, minusOne, api.Dec{}, api.Dec{}, api.OK},
		{"0 * highest", Mul, api.Dec{}, highest, api.Dec{}, api.OK},
		{"highest * lowest", Mul, highest, lowest, one, api.OK},
		{"highest * 10", Mul, highest, made(false, "1", 1), api.Dec{}, api.ErrExp},
		{"highest * highest", Mul, highest, highest, api.Dec{}, api.ErrExp},
		{"lowest * 0.1", Mul, lowest, made(false, "1", -1), api.Dec{}, api.ErrExp},
		{"lowest * lowest", Mul, lowest, lowest, api.Dec{}, api.ErrExp},
		{"5e1000 * 2", Mul, made(false, "5", 1000), made(false, "2", 0), api.Dec{}, api.ErrExp},
		{"5e999 * 2", Mul, made(false, "5", 999), made(false, "2", 0), highest, api.OK},
		{"5e-1000 * 2e-1", Mul, made(false, "5", -1000), made(false, "2", -1), lowest, api.OK},
		{"300 digits * 11", Mul, nines, made(false, "11", 0), api.Dec{}, api.ErrDigits},
		{"150 digits, squared", Mul, made(false, times("9", 150), 0), made(false, times("9", 150), 0), made(false, times("9", 149)+"8"+times("0", 149)+"1", 0), api.OK},
		{"digits ahead of the exponent", Mul, made(false, times("9", 300), 1000), made(false, times("9", 300), 1000), api.Dec{}, api.ErrDigits},
	} {
		got, e := c.call(c.a, c.b)
		checkAnswer(t, c.name, got, e, c.want, c.wantE)
	}
}

func TestP21Neg(t *testing.T) {
	decimals(t, func(a api.Dec) {
		want := a
		want.Neg = !a.Neg && len(a.Coef) > 0
		got, e := Neg(a)
		checkAnswer(t, "Neg of "+show(a), got, e, want, api.OK)
	})
}

func TestP21Whole(t *testing.T) {
	limit := new(big.Int).Lsh(big.NewInt(1), 53)
	decimals(t, func(a api.Dec) {
		whole, rest := new(big.Int).QuoRem(scaled(a), ten(1000), new(big.Int))
		want, wantIs := 0, rest.Sign() == 0 && whole.CmpAbs(limit) <= 0
		if wantIs {
			want = int(whole.Int64())
		}
		if n, is, e := Whole(a); n != want || is != wantIs || e != api.OK {
			t.Errorf("Whole of %s: %d, %t, error %d", show(a), n, is, e)
		}
	})
	for _, c := range []struct {
		a    api.Dec
		want int
		is   bool
	}{
		{api.Dec{}, 0, true},
		{made(false, "1", 0), 1, true},
		{made(true, "1", 0), -1, true},
		{made(false, "12", 3), 12000, true},
		{made(true, "1", 10), -10000000000, true},
		{made(false, "4294967296", 0), 1 << 32, true},
		{made(false, "9007199254740991", 0), 1<<53 - 1, true},
		{made(false, "9007199254740992", 0), 1 << 53, true},
		{made(true, "9007199254740992", 0), -1 << 53, true},
		{made(false, "9007199254740993", 0), 0, false},
		{made(true, "9007199254740993", 0), 0, false},
		{made(false, "900719925474099", 1), 9007199254740990, true},
		{made(false, "9", 15), 9e15, true},
		{made(false, "1", 15), 1e15, true},
		{made(false, "1", 16), 0, false},
		{made(false, "1", 18), 0, false},
		{made(false, "1", 1000), 0, false},
		{made(true, "1", 1000), 0, false},
		{made(false, times("9", 300), 0), 0, false},
		{made(false, times("9", 300), 1000), 0, false},
		{made(false, "36893488147419103233", 0), 0, false}, // 2^65 + 1
		{made(false, "5", -1), 0, false},
		{made(true, "15", -1), 0, false},
		{made(false, "1", -1000), 0, false},
		{made(false, "90071992547409921", -1), 0, false},
		{made(false, times("9", 300), -299), 0, false},
	} {
		if n, is, e := Whole(c.a); n != c.want || is != c.is || e != api.OK {
			t.Errorf("Whole of %s: %d, %t, error %d", show(c.a), n, is, e)
		}
	}
}

// calls are the calls of two decimals and of one, each with how its answers can be seen to be none.
func calls(a, b api.Dec) map[string]func() (api.Errno, bool) {
	return map[string]func() (api.Errno, bool){
		"Compare": func() (api.Errno, bool) { n, e := Compare(a, b); return e, n == 0 },
		"Add":     func() (api.Errno, bool) { c, e := Add(a, b); return e, isZero(c) },
		"Sub":     func() (api.Errno, bool) { c, e := Sub(a, b); return e, isZero(c) },
		"Mul":     func() (api.Errno, bool) { c, e := Mul(a, b); return e, isZero(c) },
	}
}

func callsOfOne(a api.Dec) map[string]func() (api.Errno, bool) {
	return map[string]func() (api.Errno, bool){
		"Neg":   func() (api.Errno, bool) { c, e := Neg(a); return e, isZero(c) },
		"Whole": func() (api.Errno, bool) { n, is, e := Whole(a); return e, n == 0 && !is },
		"Print": func() (api.Errno, bool) { s, e := Print(a); return e, s == "" },
	}
}

// TestP21Wrong: a decimal that may not be is told, ahead of whatever the call itself would tell.
func TestP21Wrong(t *testing.T) {
	check := func(what string, list map[string]func() (api.Errno, bool)) {
		for name, call := range list {
			if e, none := call(); e != api.ErrState || !none {
				t.Errorf("%s, %s: error %d (nothing beside it: %t)", name, what, e, none)
			}
		}
	}
	highest := made(false, times("9", 300), 1000)
	for name, a := range wrong() {
		check(name, callsOfOne(a))
		for _, b := range []api.Dec{{}, made(true, "1", 0), highest, made(false, "1", -1000)} {
			check(name+" first", calls(a, b))
			check(name+" second", calls(b, a))
		}
		for other, b := range wrong() {
			check(name+" and "+other, calls(a, b))
		}
	}
}
