package quot

import (
	"slices"
	"testing"

	"bolter/api"
)

// answers calls everything; each decimal is one of them.
func answers(a, b api.Dec) []api.Dec {
	var out []api.Dec
	keep := func(c api.Dec, _ api.Errno) { out = append(out, c) }
	keep(Div(a, b))
	keep(Div(b, a))
	keep(Div(a, api.Dec{Coef: []uint32{1}}))
	keep(Mod(a, b))
	keep(Mod(b, a))
	keep(Mod(a, made(false, "1", 1000)))
	for _, c := range []api.Dec{a, b} {
		keep(Floor(c))
		keep(Ceil(c))
		keep(Round(c))
		keep(Abs(c))
		keep(Sqrt(c))
		keep(Sqrt(api.Dec{Coef: c.Coef, Exp: c.Exp}))
	}
	return out
}

// somePairs gives every ninth of the pairs, and some of fewer digits, whose quotients and rests are what was handed in.
func somePairs(t *testing.T, do func(a, b api.Dec)) {
	t.Helper()
	met := 0
	pairs(t, func(a, b api.Dec) {
		t.Helper()
		if met++; met%9 == 0 {
			do(a, b)
		}
	})
	for _, a := range []api.Dec{made(false, "7", 0), made(true, "123456789012345", 0), made(false, "12345678901", -3)} {
		for _, b := range []api.Dec{made(false, "1", 0), made(true, "1", 0), made(false, "1", 30), made(false, "3", -1)} {
			do(a, b)
		}
	}
}

// withRoom answers a, with room behind its limbs in their memory, so that what is put behind them would be seen.
func withRoom(a api.Dec) api.Dec {
	a.Coef = append(make([]uint32, 0, len(a.Coef)+8), a.Coef...)
	return a
}

// TestP35Arguments: no call changes what is handed in, nor what stands behind it in its memory.
func TestP35Arguments(t *testing.T) {
	check := func(a, b api.Dec) {
		x, y := withRoom(a), withRoom(b)
		answers(x, y)
		for _, c := range [][2]api.Dec{{x, a}, {y, b}} {
			if !same(c[0], c[1]) {
				t.Errorf("%s was changed: %s", show(c[1]), show(c[0]))
			}
			l := c[0].Coef
			for _, z := range l[len(l):cap(l)] {
				if z != 0 {
					t.Errorf("%s: something was put behind it", show(c[1]))
				}
			}
		}
	}
	somePairs(t, check)
	for _, a := range wrong() {
		check(a, made(false, "3", 0))
		check(made(true, "3", 9), a)
	}
}

// TestP35Answers: an answer stays as it is, whatever is done to the arguments and to all other answers.
func TestP35Answers(t *testing.T) {
	spoil := func(a api.Dec) {
		l := a.Coef[:cap(a.Coef)]
		for i := range l {
			l[i] = 0x5a5a5a5a
		}
	}
	somePairs(t, func(a, b api.Dec) {
		want := answers(a, b)
		for i := range want {
			want[i].Coef = slices.Clone(want[i].Coef)
		}
		x, y := withRoom(a), withRoom(b)
		got := answers(x, y)
		spoil(x)
		spoil(y)
		for i := range got {
			if !same(got[i], want[i]) {
				t.Errorf("answer %d of %s, %s: it shares memory, or is not the same twice", i, show(a), show(b))
			}
			spoil(got[i])
		}
		for i, c := range answers(a, b) {
			if !same(c, want[i]) {
				t.Errorf("answer %d of %s, %s: something is kept that an answer shares", i, show(a), show(b))
			}
		}
	})
}

// TestP1Nil: nil and empty limbs are one.
func TestP1Nil(t *testing.T) {
	empty := func() api.Dec { return api.Dec{Coef: []uint32{}} }
	for _, b := range []api.Dec{{}, made(false, "4", 0), made(true, "25", -7)} {
		for _, c := range [][2][]api.Dec{
			{answers(api.Dec{}, b), answers(empty(), b)},
			{answers(b, api.Dec{}), answers(b, empty())},
		} {
			for i := range c[0] {
				if !same(c[0][i], c[1][i]) {
					t.Errorf("answer %d with 0 and %s: %s, %s", i, show(b), show(c[0][i]), show(c[1][i]))
				}
			}
		}
	}
}
