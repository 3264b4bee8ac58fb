package nat

import (
	"math"
	"math/big"
	"slices"
	"testing"

	"bolter/api"
)

func TestP12Pow(t *testing.T) {
	want := big.NewInt(1)
	for n := range 2401 {
		if a, e := Pow(n); e != api.OK || !same(a, want) {
			t.Fatalf("Pow(%d): %v, error %d", n, a, e)
		}
		want.Mul(want, big.NewInt(10))
	}
	for _, n := range []int{-1, 2401, -2400, 1 << 20, math.MinInt, math.MaxInt} {
		if a, e := Pow(n); a != nil || e != api.ErrRange {
			t.Errorf("Pow(%d): %v, error %d", n, a, e)
		}
	}
}

func TestP12PowExample(t *testing.T) {
	if a, e := Pow(10); e != api.OK || !slices.Equal(a, []uint32{1410065408, 2}) {
		t.Error("10^10:", a, e)
	}
}

func TestP12Parse(t *testing.T) {
	for _, s := range []string{
		"0", "1", "9", "10", "000000000", "0000000001", "007", "4294967295", "4294967296",
		"999999999", "1000000000", "999999999999999999", "1000000000000000000",
		"18446744073709551615", "18446744073709551616", "340282366920938463463374607431768211456",
		digits("9", 2400), digits("0", 2400), "1" + digits("0", 2399), digits("0", 2399) + "1", digits("1234567890", 240),
	} {
		want, _ := new(big.Int).SetString(s, 10)
		if a, e := Parse(s); e != api.OK || !same(a, want) {
			t.Errorf("Parse(%s): %v, error %d", s, a, e)
		}
	}
}

func TestP12ParseWrong(t *testing.T) {
	for _, c := range []struct {
		name, s string
		want    api.Errno
	}{
		{"no digits", "", api.ErrShort},
		{"2401 digits", digits("9", 2401), api.ErrLong},
		{"2401 times 0", digits("0", 2401), api.ErrLong},
		{"very many digits", digits("1", 1<<18), api.ErrLong},
		{"too many digits, and no digit", digits("1", 2401) + "x", api.ErrLong},
		{"no digit, and too many digits", "x" + digits("1", 2401), api.ErrLong},
		{"no digit first", "x1", api.ErrToken},
		{"no digit last", "1x", api.ErrToken},
		{"no digit among 2400 octets", digits("1", 2399) + "x", api.ErrToken},
		{"the octet below 0", "1/2", api.ErrToken},
		{"the octet above 9", "1:2", api.ErrToken},
		{"a sign", "-1", api.ErrToken},
		{"a plus", "+1", api.ErrToken},
		{"a point", "1.5", api.ErrToken},
		{"an exponent", "1e3", api.ErrToken},
		{"a blank", " 1", api.ErrToken},
		{"a newline", "1\n", api.ErrToken},
		{"an underline", "1_000", api.ErrToken},
		{"a digit of another script", "1\u0661", api.ErrToken},
		{"an octet of no character", "1\xff", api.ErrToken},
		{"the octet 0", "1\x00", api.ErrToken},
	} {
		if a, e := Parse(c.s); a != nil || e != c.want {
			t.Errorf("Parse, %s: %v, error %d, not %d", c.name, a, e, c.want)
		}
	}
}

func TestP12Print(t *testing.T) {
	numbers(t, func(a, _ []uint32) {
		if s, e := Print(a); e != api.OK || s != toBig(a).String() {
			t.Errorf("Print(%v): %s, error %d", a, s, e)
		}
	})
	if s, e := Print(nil); s != "0" || e != api.OK {
		t.Error("0:", s, e)
	}
	if s, e := Print(tooLong()); s != "" || e != api.ErrLong {
		t.Error("too long:", s, e)
	}
	if s, e := Print(zeroEnded()); s != "" || e != api.ErrState {
		t.Error("a last limb of 0:", s, e)
	}
}

// TestP14: a number comes back from its digits, and digits (but for 0 at the beginning) from their number.
func TestP14(t *testing.T) {
	back := func(a []uint32) {
		t.Helper()
		s, e := Print(a)
		if e != api.OK || len(s) > 2400 {
			return
		}
		if b, e := Parse(s); e != api.OK || !slices.Equal(a, b) {
			t.Errorf("%v, printed and read: %v, error %d", a, b, e)
		}
	}
	numbers(t, func(a, _ []uint32) { back(a) })
	for n := range 2400 {
		a, _ := Pow(n)
		back(a)
		below, _ := Sub(a, []uint32{1})
		back(below)
	}
	for n := 1; n <= 2400; n++ {
		for _, s := range []string{digits("9", n), "1" + digits("0", n-1), digits("7", n)} {
			for _, ahead := range []string{"", "0", "0000000000"} {
				if len(ahead)+n > 2400 {
					continue
				}
				a, e1 := Parse(ahead + s)
				if got, e2 := Print(a); e1 != api.OK || e2 != api.OK || got != s {
					t.Fatalf("%s, read and printed: %s, errors %d, %d", s, got, e1, e2)
				}
			}
		}
	}
}
