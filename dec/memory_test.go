package dec

import (
	"slices"
	"testing"

	"bolter/api"
)

// answers calls everything that hands out decimals; each of them is one.
func answers(a, b api.Dec) []api.Dec {
	var out []api.Dec
	keep := func(c api.Dec, _ api.Errno) { out = append(out, c) }
	keep(Add(a, b))
	keep(Sub(a, b))
	keep(Mul(a, b))
	keep(Neg(a))
	keep(Neg(b))
	keep(Settle(a.Neg, a.Coef, a.Exp))
	keep(Settle(true, b.Coef, 0))
	keep(Add(a, api.Dec{}))
	keep(Sub(api.Dec{}, b))
	keep(Mul(a, api.Dec{Coef: []uint32{1}}))
	keep(Parse("-12345678901234567890.5"))
	keep(Parse("0"))
	return append(out, Int(0), Int(7), Int(-1<<40))
}

// ask calls everything that hands out something else.
func ask(a, b api.Dec) {
	Check(a)
	Compare(a, b)
	Whole(a)
	Print(a)
}

// withRoom answers a, with room behind its limbs in their memory, so that what is put behind them would be seen.
func withRoom(a api.Dec) api.Dec {
	a.Coef = append(make([]uint32, 0, len(a.Coef)+8), a.Coef...)
	return a
}

// copied answers a in memory of its own.
func copied(a api.Dec) api.Dec {
	a.Coef = slices.Clone(a.Coef)
	return a
}

// TestP25Arguments: no call changes what is handed in, nor what stands behind it in its memory.
func TestP25Arguments(t *testing.T) {
	check := func(a, b api.Dec) {
		x, y := withRoom(a), withRoom(b)
		answers(x, y)
		ask(x, y)
		for _, c := range [][2]api.Dec{{x, a}, {y, b}} {
			if !same(c[0], c[1]) {
				t.Errorf("%s was changed: %s", show(c[1]), show(c[0]))
			}
			l := c[0].Coef
			for _, z := range l[len(l):cap(l)] {
				if z != 0 {
					t.Errorf("%s: something was put behind it", show(c[1]))
				}
			}
		}
	}
	somePairs(t, check)
	for _, a := range wrong() {
		check(a, made(false, "3", 0))
		check(made(true, "3", 9), a)
	}
	check(api.Dec{Coef: limbs("1000")}, api.Dec{Coef: limbs("70" + times("0", 2000))})
}

// TestP25Answers: an answer stays as it is, whatever is done to the arguments and to all other answers.
func TestP25Answers(t *testing.T) {
	spoil := func(a api.Dec) {
		l := a.Coef[:cap(a.Coef)]
		for i := range l {
			l[i] = 0x5a5a5a5a
		}
	}
	somePairs(t, func(a, b api.Dec) {
		want := answers(a, b)
		for i := range want {
			want[i] = copied(want[i])
		}
		x, y := withRoom(a), withRoom(b)
		got := answers(x, y)
		spoil(x)
		spoil(y)
		for i := range got {
			if !same(got[i], want[i]) {
				t.Errorf("answer %d of %s, %s: it shares memory, or is not the same twice", i, show(a), show(b))
			}
			spoil(got[i])
		}
		for i, c := range answers(a, b) {
			if !same(c, want[i]) {
				t.Errorf("answer %d of %s, %s: something is kept that an answer shares", i, show(a), show(b))
			}
		}
	})
}

// TestP1Nil: nil and empty limbs are one.
func TestP1Nil(t *testing.T) {
	empty := func() api.Dec { return api.Dec{Coef: []uint32{}} }
	for _, b := range []api.Dec{{}, made(false, "4", 0), made(true, "25", -7)} {
		for _, c := range [][2][]api.Dec{
			{answers(api.Dec{}, b), answers(empty(), b)},
			{answers(b, api.Dec{}), answers(b, empty())},
		} {
			for i := range c[0] {
				if !same(c[0][i], c[1][i]) {
					t.Errorf("answer %d with 0 and %s: %s, %s", i, show(b), show(c[0][i]), show(c[1][i]))
				}
			}
		}
	}
	if n, e := Compare(empty(), api.Dec{}); n != 0 || e != api.OK {
		t.Error("Compare of 0 and 0:", n, e)
	}
}
