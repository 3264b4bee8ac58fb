package nat

import (
	"slices"
	"testing"

	"bolter/api"
)

// answers calls everything that hands out lists; each list of each call is one of them.
func answers(a, b []uint32) [][]uint32 {
	var out [][]uint32
	keep := func(l []uint32, _ api.Errno) { out = append(out, l) }
	keep(Add(a, b))
	keep(Sub(a, b))
	keep(Mul(a, b))
	q, r, _ := Div(a, b)
	out = append(out, q, r)
	keep(Root(a))
	keep(Root(b))
	keep(Pow(12))
	keep(Pow(0))
	keep(Parse("123456789012345678901234567890"))
	keep(Parse("7"))
	out = append(out, From(7), From(1<<40))
	return out
}

// withRoom answers a, with room behind it in its memory, so that what is put behind it would be seen.
func withRoom(a []uint32) []uint32 {
	return append(make([]uint32, 0, len(a)+8), a...)
}

// TestP15Arguments: no call changes what is handed in, nor what stands behind it in its memory.
func TestP15Arguments(t *testing.T) {
	numbers(t, func(a, b []uint32) {
		x, y := withRoom(a), withRoom(b)
		answers(x, y)
		Compare(x, y)
		Check(x)
		Print(x)
		if !slices.Equal(x, a) || !slices.Equal(y, b) {
			t.Errorf("%v, %v: they were changed: %v, %v", a, b, x, y)
		}
		for _, l := range [][]uint32{x, y} {
			for _, z := range l[len(l):cap(l)] {
				if z != 0 {
					t.Errorf("%v, %v: something was put behind them", a, b)
				}
			}
		}
	})
}

// TestP15Answers: an answer stays as it is, whatever is done to the arguments and to all other answers.
func TestP15Answers(t *testing.T) {
	spoil := func(l []uint32) {
		l = l[:cap(l)]
		for i := range l {
			l[i] = 0x5a5a5a5a
		}
	}
	numbers(t, func(a, b []uint32) {
		want := answers(a, b)
		for i := range want {
			want[i] = slices.Clone(want[i])
		}
		x, y := withRoom(a), withRoom(b)
		got := answers(x, y)
		spoil(x)
		spoil(y)
		for i := range got {
			if !slices.Equal(got[i], want[i]) {
				t.Errorf("answer %d of %v, %v: it shares memory, or is not the same twice", i, a, b)
			}
			spoil(got[i])
		}
		for i, l := range answers(a, b) {
			if !slices.Equal(l, want[i]) {
				t.Errorf("answer %d of %v, %v: something is kept that an answer shares", i, a, b)
			}
		}
	})
}

// TestP1Nil: nil and empty lists are one, and whatever may be no number is told, not met with a panic.
func TestP1Nil(t *testing.T) {
	for _, a := range [][]uint32{nil, {}} {
		for _, b := range [][]uint32{nil, {}, {4}} {
			x, y := answers(a, b), answers(nil, slices.Clone(b))
			for i := range x {
				if !slices.Equal(x[i], y[i]) {
					t.Errorf("answer %d: %v, %v", i, x[i], y[i])
				}
			}
		}
	}
	wrong := [][]uint32{nil, {0}, {0, 0, 0}, zeroEnded(), tooLong(), full(api.MaxLimbs + 1), make([]uint32, 1<<16)}
	for _, a := range wrong {
		for _, b := range wrong {
			answers(a, b)
			Compare(a, b)
			Print(a)
		}
	}
}
