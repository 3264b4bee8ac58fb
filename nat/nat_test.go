package nat

import (
	"math"
	"math/big"
	"slices"
	"testing"

	"bolter/api"
)

func TestP11Check(t *testing.T) {
	for _, c := range []struct {
		name string
		a    []uint32
		want api.Errno
	}{
		{"none", nil, api.OK},
		{"empty", []uint32{}, api.OK},
		{"one", []uint32{1}, api.OK},
		{"0 below", []uint32{0, 0, 1}, api.OK},
		{"MaxLimbs", full(api.MaxLimbs), api.OK},
		{"MaxLimbs and one", full(api.MaxLimbs + 1), api.ErrLong},
		{"0 alone", []uint32{0}, api.ErrState},
		{"0 last", []uint32{7, 0}, api.ErrState},
		{"MaxLimbs, 0 last", make([]uint32, api.MaxLimbs), api.ErrState},
		{"too many, 0 last", tooLong(), api.ErrLong},
		{"far too many", full(1 << 16), api.ErrLong},
	} {
		if e := Check(c.a); e != c.want {
			t.Errorf("Check, %s: %d, not %d", c.name, e, c.want)
		}
	}
}

func TestP11From(t *testing.T) {
	for _, c := range []struct {
		n    uint64
		want []uint32
	}{
		{0, nil},
		{1, []uint32{1}},
		{math.MaxUint32, []uint32{0xffffffff}},
		{1 << 32, []uint32{0, 1}},
		{10_000_000_000, []uint32{1410065408, 2}},
		{math.MaxUint64, []uint32{0xffffffff, 0xffffffff}},
	} {
		if a := From(c.n); !slices.Equal(a, c.want) {
			t.Errorf("From(%d): %v", c.n, a)
		}
	}
}

func TestP11Compare(t *testing.T) {
	numbers(t, func(a, b []uint32) {
		if n, e := Compare(a, b); e != api.OK || n != toBig(a).Cmp(toBig(b)) {
			t.Errorf("Compare(%v, %v): %d, error %d", a, b, n, e)
		}
		if n, e := Compare(a, slices.Clone(a)); e != api.OK || n != 0 {
			t.Errorf("Compare of %v and itself: %d, error %d", a, n, e)
		}
	})
}

func TestP11Add(t *testing.T) {
	numbers(t, func(a, b []uint32) {
		checkFit(t, "Add", Add, a, b, new(big.Int).Add(toBig(a), toBig(b)))
	})
	if s, e := Add(full(api.MaxLimbs), []uint32{1}); s != nil || e != api.ErrDigits {
		t.Error("a sum of too many limbs:", len(s), e)
	}
	almost := full(api.MaxLimbs)
	almost[0]--
	if s, e := Add(almost, []uint32{1}); !slices.Equal(s, full(api.MaxLimbs)) || e != api.OK {
		t.Error("the greatest sum:", len(s), e)
	}
}

func TestP11Sub(t *testing.T) {
	numbers(t, func(a, b []uint32) {
		d, e := Sub(a, b)
		want := new(big.Int).Sub(toBig(a), toBig(b))
		if want.Sign() < 0 {
			if d != nil || e != api.ErrRange {
				t.Errorf("Sub(%v, %v): %v, error %d", a, b, d, e)
			}
		} else if e != api.OK || !same(d, want) {
			t.Errorf("Sub(%v, %v): %v, error %d", a, b, d, e)
		}
	})
	if d, e := Sub(nil, []uint32{1}); d != nil || e != api.ErrRange {
		t.Error("0 less 1:", d, e)
	}
	if d, e := Sub(full(3), full(3)); len(d) != 0 || e != api.OK {
		t.Error("a number less itself:", d, e)
	}
}

func TestP11Mul(t *testing.T) {
	numbers(t, func(a, b []uint32) {
		checkFit(t, "Mul", Mul, a, b, new(big.Int).Mul(toBig(a), toBig(b)))
	})
	half := top(api.MaxLimbs/2 + 1)
	if p, e := Mul(half, half); p != nil || e != api.ErrDigits {
		t.Error("a product of MaxLimbs and one:", len(p), e)
	}
	if p, e := Mul(half, top(api.MaxLimbs/2)); len(p) != api.MaxLimbs || e != api.OK {
		t.Error("a product of MaxLimbs:", len(p), e)
	}
	if p, e := Mul(full(api.MaxLimbs), nil); len(p) != 0 || e != api.OK {
		t.Error("a product by 0:", len(p), e)
	}
}

// checkFit holds an answer against the number that it should be, or against ErrDigits if that one has too many limbs.
func checkFit(t *testing.T, name string, f func(a, b []uint32) ([]uint32, api.Errno), a, b []uint32, want *big.Int) {
	t.Helper()
	got, e := f(a, b)
	if want.BitLen() > 32*api.MaxLimbs {
		if got != nil || e != api.ErrDigits {
			t.Errorf("%s(%v, %v), too great: %v, error %d", name, a, b, got, e)
		}
	} else if e != api.OK || !same(got, want) {
		t.Errorf("%s(%v, %v): %v, error %d", name, a, b, got, e)
	}
}

func TestP11Div(t *testing.T) {
	numbers(t, func(a, b []uint32) {
		q, r, e := Div(a, b)
		if len(b) == 0 {
			if q != nil || r != nil || e != api.ErrZero {
				t.Errorf("Div(%v, 0): %v, %v, error %d", a, q, r, e)
			}
			return
		}
		wantQ, wantR := new(big.Int).QuoRem(toBig(a), toBig(b), new(big.Int))
		if e != api.OK || !same(q, wantQ) || !same(r, wantR) {
			t.Errorf("Div(%v, %v): %v, %v, error %d", a, b, q, r, e)
		}
	})
}

// TestP13 holds quotient and rest against the dividend by this layer's own calls.
func TestP13(t *testing.T) {
	numbers(t, func(a, b []uint32) {
		if len(b) == 0 {
			return
		}
		q, r, _ := Div(a, b)
		p, e1 := Mul(q, b)
		s, e2 := Add(p, r)
		if e1 != api.OK || e2 != api.OK || !slices.Equal(s, a) {
			t.Errorf("Div(%v, %v): %v, %v: they do not make the dividend", a, b, q, r)
		}
		if n, e := Compare(r, b); n != -1 || e != api.OK {
			t.Errorf("Div(%v, %v): the rest %v is not below", a, b, r)
		}
	})
}

// binary are the calls of two numbers, each with how its answers can be seen to be none.
func binary(a, b []uint32) map[string]func() (api.Errno, bool) {
	return map[string]func() (api.Errno, bool){
		"Compare": func() (api.Errno, bool) { n, e := Compare(a, b); return e, n == 0 },
		"Add":     func() (api.Errno, bool) { l, e := Add(a, b); return e, len(l) == 0 },
		"Sub":     func() (api.Errno, bool) { l, e := Sub(a, b); return e, len(l) == 0 },
		"Mul":     func() (api.Errno, bool) { l, e := Mul(a, b); return e, len(l) == 0 },
		"Div":     func() (api.Errno, bool) { l, m, e := Div(a, b); return e, len(l) == 0 && len(m) == 0 },
	}
}

// TestP11Order: the first argument's error goes ahead of the second's, both ahead of the call's own.
func TestP11Order(t *testing.T) {
	good := []uint32{3}
	for _, c := range []struct {
		name string
		a, b []uint32
		want api.Errno
	}{
		{"a too long", tooLong(), good, api.ErrLong},
		{"b too long", good, tooLong(), api.ErrLong},
		{"a ends with 0", zeroEnded(), good, api.ErrState},
		{"b ends with 0", good, zeroEnded(), api.ErrState},
		{"a too long, b ends with 0", tooLong(), zeroEnded(), api.ErrLong},
		{"a ends with 0, b too long", zeroEnded(), tooLong(), api.ErrState},
		{"a too long, b is 0", tooLong(), nil, api.ErrLong},
		{"a ends with 0, b is 0", zeroEnded(), nil, api.ErrState},
		{"a is 0, b too long", nil, tooLong(), api.ErrLong},
		{"b is 0 with a limb", good, []uint32{0}, api.ErrState},
		{"the greatest, b ends with 0", full(api.MaxLimbs), zeroEnded(), api.ErrState},
		{"the greatest, b too long", full(api.MaxLimbs), full(api.MaxLimbs + 1), api.ErrLong},
	} {
		for name, call := range binary(c.a, c.b) {
			if e, none := call(); e != c.want || !none {
				t.Errorf("%s, %s: error %d, not %d (nothing beside it: %t)", name, c.name, e, c.want, none)
			}
		}
	}
}

func TestP12Root(t *testing.T) {
	numbers(t, func(a, _ []uint32) {
		checkRoot(t, a)
	})
	d := dice(5)
	for range 200 {
		r := d.number(api.MaxLimbs / 2)
		square, e := Mul(r, r)
		if e != api.OK || len(r) == 0 {
			continue
		}
		if got, e := Root(square); e != api.OK || !slices.Equal(got, r) {
			t.Errorf("Root of the square of %v: %v, error %d", r, got, e)
		}
		below, _ := Sub(square, []uint32{1})
		checkRoot(t, below)
		if above, e := Add(square, []uint32{1}); e == api.OK {
			checkRoot(t, above)
		}
	}
	for n, want := range []uint64{0, 1, 1, 1, 2, 2, 2, 2, 2, 3, 3} {
		if got, e := Root(From(uint64(n))); e != api.OK || !slices.Equal(got, From(want)) {
			t.Errorf("Root of %d: %v, error %d", n, got, e)
		}
	}
}

func checkRoot(t *testing.T, a []uint32) {
	t.Helper()
	if got, e := Root(a); e != api.OK || !same(got, new(big.Int).Sqrt(toBig(a))) {
		t.Errorf("Root(%v): %v, error %d", a, got, e)
	}
}

func TestP12RootWrong(t *testing.T) {
	if r, e := Root(tooLong()); r != nil || e != api.ErrLong {
		t.Error("too long:", r, e)
	}
	if r, e := Root(zeroEnded()); r != nil || e != api.ErrState {
		t.Error("a last limb of 0:", r, e)
	}
}
