package quot

import (
	"math/big"
	"testing"

	"bolter/api"
)

// floor answers what the chapter says of Floor.
func floor(a api.Dec) (api.Dec, api.Errno) {
	return settled(new(big.Int).Div(scaled(a), ten(api.MaxExp)), 0)
}

func ceil(a api.Dec) (api.Dec, api.Errno) {
	n := scaled(a)
	n.Div(n.Neg(n), ten(api.MaxExp))
	return settled(n.Neg(n), 0)
}

func round(a api.Dec) (api.Dec, api.Errno) {
	n := scaled(a)
	half := new(big.Int).Mul(big.NewInt(5*int64(n.Sign())), ten(api.MaxExp-1))
	return settled(n.Quo(n.Add(n, half), ten(api.MaxExp)), 0)
}

func abs(a api.Dec) (api.Dec, api.Errno) {
	a.Neg = false
	return a, api.OK
}

func TestP31Whole(t *testing.T) {
	want := map[string]func(a api.Dec) (api.Dec, api.Errno){"Floor": floor, "Ceil": ceil, "Round": round, "Abs": abs}
	decimals(t, func(a api.Dec) {
		for call, should := range want {
			right, rightE := should(a)
			got, e := one()[call](a)
			checkAnswer(t, call+" of "+show(a), got, e, right, rightE)
		}
	})
}

func TestP31WholeEdges(t *testing.T) {
	for _, c := range []struct {
		a, floor, ceil, round string
	}{
		{"0", "0", "0", "0"},
		{"1", "1", "1", "1"},
		{"-1", "-1", "-1", "-1"},
		{"120", "120", "120", "120"},
		{"-120", "-120", "-120", "-120"},
		{"0.5", "0", "1", "1"},
		{"-0.5", "-1", "0", "-1"},
		{"1.5", "1", "2", "2"},
		{"-1.5", "-2", "-1", "-2"},
		{"2.5", "2", "3", "3"},
		{"-2.5", "-3", "-2", "-3"},
		{"0.4", "0", "1", "0"},
		{"-0.4", "-1", "0", "0"},
		{"0.6", "0", "1", "1"},
		{"-0.6", "-1", "0", "-1"},
		{"0.49999999999999999999999999", "0", "1", "0"},
		{"-0.49999999999999999999999999", "-1", "0", "0"},
		{"0.50000000000000000000000001", "0", "1", "1"},
		{"2.4999", "2", "3", "2"},
		{"2.5001", "2", "3", "3"},
		{"-2.4999", "-3", "-2", "-2"},
		{"9.5", "9", "10", "10"},
		{"-9.5", "-10", "-9", "-10"},
		{"10.25", "10", "11", "10"},
		{"-99.75", "-100", "-99", "-100"},
		{"99.01", "99", "100", "99"},
		{"1e-1000", "0", "1", "0"},
		{"-1e-1000", "-1", "0", "0"},
		{"5e-1000", "0", "1", "0"},
		{"5e-1", "0", "1", "1"},
		{times("9", 300) + "e-1000", "0", "1", "0"},
		{"-" + times("9", 300) + "e-1000", "-1", "0", "0"},
		{times("9", 300) + "e-300", "0", "1", "1"},
		{"-" + times("9", 300) + "e-300", "-1", "0", "-1"},
		{times("4", 300) + "e-300", "0", "1", "0"},
		{times("5", 300) + "e-301", "0", "1", "0"},
		{"1e1000", "1e1000", "1e1000", "1e1000"},
		{"-1e1000", "-1e1000", "-1e1000", "-1e1000"},
		{"-" + times("9", 300) + "e1000", "-" + times("9", 300) + "e1000", "-" + times("9", 300) + "e1000", "-" + times("9", 300) + "e1000"},
		{times("9", 300), times("9", 300), times("9", 300), times("9", 300)},
		{times("9", 299) + ".9", times("9", 299), "1e299", "1e299"},
		{"-" + times("9", 299) + ".9", "-1e299", "-" + times("9", 299), "-1e299"},
		{times("9", 299) + ".5", times("9", 299), "1e299", "1e299"},
		{times("9", 299) + ".4", times("9", 299), "1e299", times("9", 299)},
		{times("9", 298) + ".99", times("9", 298), "1e298", "1e298"},
		{"-" + times("9", 298) + ".01", "-1e298", "-" + times("9", 298), "-" + times("9", 298)},
		{times("9", 150) + "." + times("0", 149) + "1", times("9", 150), "1e150", times("9", 150)},
		{"1" + times("0", 298) + ".1", "1e298", "1" + times("0", 297) + "1", "1e298"},
	} {
		a := read(t, c.a)
		for call, want := range map[string]string{"Floor": c.floor, "Ceil": c.ceil, "Round": c.round} {
			got, e := one()[call](a)
			checkAnswer(t, call+" of "+c.a, got, e, read(t, want), api.OK)
		}
	}
}

func TestP31Abs(t *testing.T) {
	for _, c := range [][2]string{
		{"0", "0"}, {"1", "1"}, {"-1", "1"}, {"-0.5", "0.5"}, {"1500", "1500"}, {"-1500", "1500"}, {"-1e-1000", "1e-1000"}, {"-1e1000", "1e1000"},
		{"-" + times("9", 300) + "e1000", times("9", 300) + "e1000"}, {times("9", 300) + "e-1000", times("9", 300) + "e-1000"},
	} {
		got, e := Abs(read(t, c[0]))
		checkAnswer(t, "Abs of "+c[0], got, e, read(t, c[1]), api.OK)
	}
}

// TestP34: Floor is not above, Ceil not below, both within 1; Round is one of them; of a whole number all are that number.
func TestP34(t *testing.T) {
	decimals(t, func(a api.Dec) {
		below, e1 := Floor(a)
		above, e2 := Ceil(a)
		near, e3 := Round(a)
		if e1 != api.OK || e2 != api.OK || e3 != api.OK {
			t.Fatalf("%s: errors %d, %d, %d", show(a), e1, e2, e3)
		}
		n, unit := scaled(a), ten(api.MaxExp)
		low, high := scaled(below), scaled(above)
		if low.Cmp(n) > 0 || high.Cmp(n) < 0 {
			t.Errorf("%s: Floor %s, Ceil %s", show(a), show(below), show(above))
		}
		if new(big.Int).Sub(n, low).Cmp(unit) >= 0 || new(big.Int).Sub(high, n).Cmp(unit) >= 0 {
			t.Errorf("%s: Floor %s or Ceil %s is not within 1", show(a), show(below), show(above))
		}
		if !same(near, below) && !same(near, above) {
			t.Errorf("%s: Round %s", show(a), show(near))
		}
		if whole := a.Exp >= 0; whole != same(below, above) || whole && !same(below, a) {
			t.Errorf("%s: Floor %s, Ceil %s", show(a), show(below), show(above))
		}
	})
}
