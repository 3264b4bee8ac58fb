package quot

import (
	"math/big"
	"testing"

	"bolter/api"
)

// TestP31WrongOne: calls of one decimal tell that it may not be, ahead of all else (a root of one below 0 too).
func TestP31WrongOne(t *testing.T) {
	for name, a := range wrong() {
		for call, do := range one() {
			got, e := do(a)
			checkAnswer(t, call+", "+name, got, e, api.Dec{}, api.ErrState)
		}
	}
}

// TestP31WrongTwo: calls of two decimals tell that one may not be, at either side, ahead of a divisor that is 0.
func TestP31WrongTwo(t *testing.T) {
	right := map[string]api.Dec{"0": {}, "3": made(false, "3", 0), "-0.5": made(true, "5", -1), "greatest": made(false, times("9", 300), 1000)}
	for call, do := range two() {
		for name, a := range wrong() {
			for other, b := range right {
				got, e := do(a, b)
				checkAnswer(t, call+", "+name+" by "+other, got, e, api.Dec{}, api.ErrState)
				got, e = do(b, a)
				checkAnswer(t, call+", "+other+" by "+name, got, e, api.Dec{}, api.ErrState)
			}
			for other, b := range wrong() {
				got, e := do(a, b)
				checkAnswer(t, call+", "+name+" by "+other, got, e, api.Dec{}, api.ErrState)
			}
		}
	}
}

// TestP31Zero: 0 divides nothing, not even 0; to Mod, all below 1 is 0.
func TestP31Zero(t *testing.T) {
	decimals(t, func(a api.Dec) {
		for _, zero := range []api.Dec{{}, {Coef: []uint32{}}} {
			for call, do := range two() {
				got, e := do(a, zero)
				checkAnswer(t, call+" of "+show(a)+" by 0", got, e, api.Dec{}, api.ErrZero)
			}
		}
	})
	for _, a := range []api.Dec{{}, made(false, "7", 0), made(true, "7", -1), made(false, "7", 1000)} {
		for _, b := range []api.Dec{made(false, "9", -1), made(true, "9", -1), made(false, "1", -1000), made(true, times("9", 300), -300)} {
			got, e := Mod(a, b)
			checkAnswer(t, "Mod of "+show(a)+" by "+show(b), got, e, api.Dec{}, api.ErrZero)
		}
	}
}

// quotient answers what the chapter says of a quotient, from far more of its digits than it has: those behind the 40th are held as a text against a half.
func quotient(a, b api.Dec) (api.Dec, api.Errno) {
	const more = 2400 // at the least, a quotient of scaled decimals is 10^-2300
	x, y := scaled(a), scaled(b)
	if y.Sign() == 0 {
		return api.Dec{}, api.ErrZero
	}
	all, rest := new(big.Int).QuoRem(x.Mul(x, ten(more)), y, new(big.Int))
	neg := all.Sign() < 0
	text := all.Abs(all).String()
	if all.Sign() == 0 {
		return api.Dec{}, api.OK
	}
	head, _ := new(big.Int).SetString(text[:40], 10)
	tail := text[40:]
	half := "5" + times("0", len(tail)-1)
	exactHalf := tail == half && rest.Sign() == 0
	if tail > half || tail == half && !exactHalf || exactHalf && head.Bit(0) == 1 {
		head.Add(head, big.NewInt(1))
	}
	if neg {
		head.Neg(head)
	}
	return settled(head, len(tail)-more)
}

func TestP31Div(t *testing.T) {
	met := map[api.Errno]int{}
	pairs(t, func(a, b api.Dec) {
		want, wantE := quotient(a, b)
		met[wantE]++
		got, e := Div(a, b)
		checkAnswer(t, "Div of "+show(a)+" by "+show(b), got, e, want, wantE)
	})
	for _, e := range []api.Errno{api.OK, api.ErrZero, api.ErrExp} {
		if met[e] < 100 {
			t.Errorf("error %d came up %d times", e, met[e])
		}
	}
}

// TestP31DivHalves: quotients just a half of the last place above 40 digits, and next to that, as they come from many divisors.
func TestP31DivHalves(t *testing.T) {
	d := dice(77)
	met := [2]int{}
	for _, divisor := range []string{"1", "2", "3", "7", "8", "16", "625", "999", "4294967296", times("9", 100), "1" + times("0", 150) + "1"} {
		b, _ := new(big.Int).SetString(divisor, 10)
		for range 60 {
			head, _ := new(big.Int).SetString(d.digits(1)+d.digits(1)+times("0", 37)+d.digits(1), 10)
			head.Add(head, big.NewInt(int64(d.next()%1000*10)))
			met[head.Bit(0)]++
			middle := new(big.Int).Mul(head, big.NewInt(10))
			middle.Add(middle, big.NewInt(5)).Mul(middle, b)
			for _, beside := range []int64{-1, 0, 1} {
				n := new(big.Int).Add(middle, big.NewInt(beside))
				a, e1 := settled(n, d.next()%41-20)
				by, e2 := settled(b, d.next()%41-20)
				if e1 != api.OK || e2 != api.OK {
					t.Fatal("the test's own numbers:", e1, e2)
				}
				want, wantE := quotient(a, by)
				got, e := Div(a, by)
				checkAnswer(t, "Div of "+show(a)+" by "+show(by), got, e, want, wantE)
			}
		}
	}
	if met[0] < 100 || met[1] < 100 {
		t.Error("last digits, even and odd:", met)
	}
}

func TestP31DivEdges(t *testing.T) {
	for _, c := range []struct {
		name string
		a, b string
		want string
	}{
		{"example 1", "1", "3", "0." + times("3", 40)},
		{"exact", "6", "3", "2"},
		{"exact, a fraction", "1", "8", "0.125"},
		{"exact, a greater exponent", "1000", "0.001", "1000000"},
		{"itself", "7.25", "7.25", "1"},
		{"by 1", "12.5", "1", "12.5"},
		{"by 10", "12.5", "10", "1.25"},
		{"0 divided", "0", "7", "0"},
		{"0 divided, below 0", "0", "-7", "0"},
		{"0 divided by the greatest", "0", times("9", 300) + "e1000", "0"},
		{"0 divided by the least", "0", "1e-1000", "0"},
		{"both above 0", "7", "2", "3.5"},
		{"the first below 0", "-7", "2", "-3.5"},
		{"the second below 0", "7", "-2", "-3.5"},
		{"both below 0", "-7", "-2", "3.5"},
		{"above a half", "2", "3", "0." + times("6", 39) + "7"},
		{"above a half, below 0", "-2", "3", "-0." + times("6", 39) + "7"},
		{"below a half, below 0", "1", "-3", "-0." + times("3", 40)},
		{"a seventh", "1", "7", "0.1428571428571428571428571428571428571429"},
		{"0 behind the point", "1", "300", "0.00" + times("3", 40)},
		{"exact, 40 digits", times("12345678", 5), "1", times("12345678", 5)},
		{"exact, 40 digits of a product", "26" + times("0", 37) + "13", "13", "2" + times("0", 38) + "1"},
		{"exact, 39 digits", times("123", 13), "1", times("123", 13)},
		{"exact, 39 digits and a fraction", "1" + times("0", 37) + "2", "10", "1" + times("0", 37) + ".2"},
		{"41 digits, the last 4", times("3", 40) + "4", "1", times("3", 40) + "0"},
		{"41 digits, the last 6", times("3", 40) + "6", "1", times("3", 39) + "40"},
		{"half, the last digit even", times("4", 40) + "5", "1", times("4", 40) + "0"},
		{"half, the last digit odd", times("3", 40) + "5", "1", times("3", 39) + "40"},
		{"half, the last digit 0", "1" + times("0", 39) + "5", "1", "1e40"},
		{"half, the last digit 9", "1" + times("0", 38) + "95", "1", "1" + times("0", 37) + "100"},
		{"half, even, below 0", "-" + times("4", 40) + "5", "1", "-" + times("4", 40) + "0"},
		{"half, odd, below 0", times("3", 40) + "5", "-1", "-" + times("3", 39) + "40"},
		{"half, even, by 2", times("8", 39) + "9", "2", times("4", 40)},
		{"half, 0, by 2", "1" + times("0", 39) + "1", "2", "5e39"},
		{"half, 0, 40 digits by 2", "2" + times("0", 38) + "1", "2", "1e39"},
		{"half, odd, 40 digits by 2", "2" + times("0", 38) + "3", "2", "1" + times("0", 38) + "2"},
		{"a little below a half", times("3", 40) + "4" + times("9", 200), "1", times("3", 40) + "e201"},
		{"a little above a half", times("4", 40) + "5" + times("0", 200) + "1", "1", times("4", 39) + "5e202"},
		{"just below a half, odd", "1" + times("0", 38) + "1" + "4" + times("9", 258), "1", "1" + times("0", 38) + "1e259"},
		{"41 times 9", times("9", 41), "1", "1e41"},
		{"300 times 9", times("9", 300), "1", "1e300"},
		{"300 times 9, below 0", times("9", 300), "-1", "-1e300"},
		{"40 times 9", times("9", 40), "1", times("9", 40)},
		{"40 times 9 and 4", times("9", 40) + "4", "1", times("9", 40) + "0"},
		{"40 times 9 and 5", times("9", 40) + "5", "1", "1e41"},
		{"9s up to one that is less", "1" + times("9", 40), "1", "2e40"},
		{"9s that are a quotient's", "1e40", "1" + times("0", 39) + "1", "0." + times("9", 40)},
		{"9s that are a quotient's, and one more", "1e41", "1" + times("0", 40) + "1", "1"},
		{"9s that are a quotient's, and many more", "1e60", "1" + times("0", 59) + "1", "1"},
		{"9s by 9s", times("9", 50), times("9", 5), "1" + times("00001", 7) + "e10"},
		{"a much greater divisor", "1", times("9", 300), "1e-300"},
		{"a much greater divisor, 3s", "1", times("3", 299), "3e-299"},
		{"a much smaller divisor", times("9", 300), "3", times("3", 40) + "e260"},
		{"300 digits by 300", times("6", 300), times("3", 300), "2"},
		{"300 digits by 300, turned", times("3", 300), times("6", 300), "0.5"},
		{"300 digits by 299", times("9", 300), times("9", 299), "10"},
		{"highest by highest", "1e1000", "1e1000", "1"},
		{"lowest by lowest", "7e-1000", "2e-1000", "3.5"},
		{"highest by 1", "1e1000", "1", "1e1000"},
		{"1 by highest", "1", "1e1000", "1e-1000"},
		{"1 by lowest", "1", "1e-1000", "1e1000"},
		{"highest by 3", "1e1000", "3", times("3", 40) + "e960"},
		{"highest by 0.3", "1e1000", "0.3", times("3", 40) + "e961"},
		{"the greatest by 3", times("9", 300) + "e1000", "1e300", "1e1000"},
		{"40 digits down to the lowest", "1e-960", "3", times("3", 40) + "e-1000"},
	} {
		got, e := Div(read(t, c.a), read(t, c.b))
		checkAnswer(t, "Div, "+c.name, got, e, read(t, c.want), api.OK)
	}
}

// TestP31DivExp: what a quotient's digits are settled to decides whether its exponent is in range.
func TestP31DivExp(t *testing.T) {
	for _, c := range [][2]string{
		{"1e1000", "0.1"},
		{"-1e1000", "0.1"},
		{"2e1000", "0.2"},
		{"1e1000", "1e-1000"},
		{"1e-1000", "10"},
		{"1e-1000", "2"},
		{"1e-1000", "1e1000"},
		{"1e-961", "3"},
		{"1e-1000", "-3"},
		{times("9", 41) + "e960", "1e-1"},
		{times("9", 300) + "e1000", "1"},
		{"1", times("9", 300) + "e1000"},
		{"3e-1000", times("7", 300) + "e1000"},
		{times("7", 300) + "e1000", "3e-1000"},
	} {
		got, e := Div(read(t, c[0]), read(t, c[1]))
		checkAnswer(t, "Div of "+c[0]+" by "+c[1], got, e, api.Dec{}, api.ErrExp)
	}
}

// TestP33: a quotient times the divisor misses the dividend by no more than half of the quotient's 40th place times the divisor, and an exact one of 40 digits by nothing.
func TestP33(t *testing.T) {
	rat := func(power int) *big.Rat {
		out := new(big.Rat).SetInt(ten(max(power, -power)))
		if power < 0 {
			out.Inv(out)
		}
		return out
	}
	met := 0
	pairs(t, func(a, b api.Dec) {
		q, e := Div(a, b)
		if e != api.OK || len(a.Coef) == 0 {
			return
		}
		met++
		point := len(toBig(q.Coef).String()) + q.Exp
		x, y := exact(a), exact(b)
		size := new(big.Rat).Quo(x, y)
		if size.Abs(size).Cmp(rat(point-1)) < 0 { // it was rounded up to a further place
			point--
		}
		miss := new(big.Rat).Sub(new(big.Rat).Mul(exact(q), y), x)
		most := new(big.Rat).Mul(rat(point-40), y.Abs(y))
		most.Quo(most, big.NewRat(2, 1))
		if miss.Abs(miss).Cmp(most) > 0 {
			t.Errorf("%s by %s: %s misses by more than half a place", show(a), show(b), show(q))
		}
		if len(toBig(q.Coef).String()) > 40 {
			t.Errorf("%s by %s: %s has more than 40 digits", show(a), show(b), show(q))
		}
	})
	if met < 1000 {
		t.Error("too few quotients:", met)
	}
}

// TestP33Exact: a product of a decimal of at most 40 digits comes back whole.
func TestP33Exact(t *testing.T) {
	d := dice(40)
	for range 1000 {
		q, b := d.decimal(40, 200), d.decimal(260, 200)
		n := new(big.Int).Mul(toBig(q.Coef), toBig(b.Coef))
		a, e := settled(n, q.Exp+b.Exp)
		if e != api.OK {
			t.Fatal("the test's own product:", e)
		}
		a.Neg = q.Neg != b.Neg
		got, e := Div(a, b)
		checkAnswer(t, "Div of "+show(a)+" by "+show(b), got, e, q, api.OK)
	}
}

// rest answers what the chapter says of a rest.
func rest(a, b api.Dec) (api.Dec, api.Errno) {
	x, y := scaled(a), scaled(b)
	x.Quo(x, ten(api.MaxExp))
	y.Quo(y, ten(api.MaxExp))
	if y.Sign() == 0 {
		return api.Dec{}, api.ErrZero
	}
	return settled(x.Rem(x, y), 0)
}

func TestP31Mod(t *testing.T) {
	met := map[api.Errno]int{}
	pairs(t, func(a, b api.Dec) {
		want, wantE := rest(a, b)
		met[wantE]++
		got, e := Mod(a, b)
		checkAnswer(t, "Mod of "+show(a)+" by "+show(b), got, e, want, wantE)
	})
	for _, e := range []api.Errno{api.OK, api.ErrZero} {
		if met[e] < 100 {
			t.Errorf("error %d came up %d times", e, met[e])
		}
	}
}

func TestP31ModEdges(t *testing.T) {
	for _, c := range []struct {
		name string
		a, b string
		want string
	}{
		{"both above 0", "7", "3", "1"},
		{"the first below 0", "-7", "3", "-1"},
		{"the second below 0", "7", "-3", "1"},
		{"both below 0", "-7", "-3", "-1"},
		{"a rest of 0", "9", "3", "0"},
		{"a rest of 0, below 0", "-9", "3", "0"},
		{"a rest of 0, both below 0", "-9", "-3", "0"},
		{"0 divided", "0", "3", "0"},
		{"0 divided, by one below 0", "0", "-3", "0"},
		{"less than the divisor", "2", "3", "2"},
		{"less than the divisor, below 0", "-2", "3", "-2"},
		{"the divisor", "3", "3", "0"},
		{"by 1", "12345", "1", "0"},
		{"by -1", "12345", "-1", "0"},
		{"fractions on both sides", "7.9", "3.9", "1"},
		{"fractions on both sides, below 0", "-7.9", "-3.9", "-1"},
		{"a fraction of the first", "5.5", "3", "2"},
		{"a fraction of the second", "5", "3.99", "2"},
		{"a fraction made 0", "0.9", "5", "0"},
		{"a fraction made 0, below 0", "-0.9", "5", "0"},
		{"a fraction made -1", "-1.9", "5", "-1"},
		{"a fraction of many digits", times("9", 150) + "." + times("9", 150), "10", "9"},
		{"the lowest, made 0", "-1e-1000", "7", "0"},
		{"a rest that ten divides", "130", "50", "30"},
		{"100 divided, a rest of 10", "100", "30", "10"},
		{"highest by 3", "1e1000", "3", "1"},
		{"highest by -7", "1e1000", "-7", "4"}, // the powers of ten by 7, six of them in turn
		{"highest below 0, by 11", "-1e1000", "11", "-1"},
		{"highest by 7.5", "1e1000", "7.5", "4"},
		{"7 by highest", "7", "1e1000", "7"},
		{"-7.5 by highest", "-7.5", "1e1000", "-7"},
		{"highest by highest", "1e1000", "1e1000", "0"},
		{"greatest by less", "9e1000", "7e1000", "2e1000"},
		{"greatest by 300 digits", times("9", 300) + "e1000", times("9", 300), "0"},
		{"300 digits by greatest", "-" + times("9", 300), times("9", 300) + "e1000", "-" + times("9", 300)},
		{"300 digits by 10^299", times("9", 300), "1e299", times("9", 299)},
		{"300 digits by 10", times("7", 300), "10", "7"},
		{"a rest of 300 digits", times("9", 300) + "e500", times("9", 299) + "8e500", "1e500"},
	} {
		got, e := Mod(read(t, c.a), read(t, c.b))
		checkAnswer(t, "Mod, "+c.name, got, e, read(t, c.want), api.OK)
	}
}

// TestP31ModExp: a rest that ten divides at the highest exponent has none that it may have.
func TestP31ModExp(t *testing.T) {
	for _, neg := range []bool{false, true} {
		got, e := Mod(made(neg, "31", 1000), made(false, "21", 1000))
		checkAnswer(t, "Mod of 31e1000 by 21e1000", got, e, api.Dec{}, api.ErrExp)
		got, e = Mod(made(neg, "31", 999), made(false, "21", 999))
		checkAnswer(t, "Mod of 31e999 by 21e999", got, e, made(neg, "1", 1000), api.OK)
	}
}
