package dec

import (
	"math/big"
	"regexp"
	"strconv"
	"strings"
	"testing"

	"bolter/api"
)

var (
	number     = regexp.MustCompile(`^(-?)(0|[1-9][0-9]*)(?:\.([0-9]+))?(?:[eE]([+-]?)0*([0-9]*))?$`)
	afterPower = regexp.MustCompile(`[eE][+-]?$`)
)

// parsed answers what the chapter says of a text.
func parsed(s string) (api.Dec, api.Errno) {
	m := number.FindStringSubmatch(s)
	if m == nil || afterPower.MatchString(s) {
		return api.Dec{}, api.ErrToken
	}
	if len(s) > 2000 {
		return api.Dec{}, api.ErrLong
	}
	if len(m[5]) > 6 {
		return api.Dec{}, api.ErrExp
	}
	n, _ := new(big.Int).SetString(m[1]+m[2]+m[3], 10)
	exp, _ := strconv.Atoi(m[4] + m[5])
	return settled(n, exp-len(m[3]))
}

func checkParse(t *testing.T, s string) {
	t.Helper()
	got, e := Parse(s)
	want, wantE := parsed(s)
	checkAnswer(t, "Parse of "+s, got, e, want, wantE)
}

// TestP22ParseMany: texts that are close to a number's form, from all the pieces that such a form may have or nearly have.
func TestP22ParseMany(t *testing.T) {
	met := map[api.Errno]int{}
	for _, sign := range []string{"", "-", "+", "--", " "} {
		for _, whole := range []string{"", "0", "00", "01", "7", "10", "120", "x", "1000000000000000000000", times("9", 301)} {
			for _, fraction := range []string{"", ".", ".0", ".5", ".50", ".00120", ".-1", "..1", ".1.1"} {
				for _, power := range []string{"", "e", "E", "e+", "e-", "e5", "E5", "e+5", "E-5", "e-0", "e+00", "e007", "e+-1", "ee1", "e1.5", "e1000", "e-1000", "e1001", "e-1001", "e999999", "e0000001000", "e1000000", "e-1000000", "e1 "} {
					s := sign + whole + fraction + power
					checkParse(t, s)
					_, e := parsed(s)
					met[e]++
				}
			}
		}
	}
	for _, e := range []api.Errno{api.OK, api.ErrToken, api.ErrExp, api.ErrDigits} {
		if met[e] < 50 {
			t.Errorf("error %d came up %d times", e, met[e])
		}
	}
}

// TestP22ParseChance: texts of the octets that numbers are made of.
func TestP22ParseChance(t *testing.T) {
	d := dice(4)
	met := 0
	for range 200_000 {
		s := make([]byte, d.next()%9)
		for i := range s {
			s[i] = "00112589..--+eE x"[d.next()%17]
		}
		checkParse(t, string(s))
		if _, e := parsed(string(s)); e == api.OK {
			met++
		}
	}
	if met < 5000 {
		t.Error("too few numbers:", met)
	}
}

func TestP22Parse(t *testing.T) {
	for _, c := range []struct {
		s    string
		want api.Dec
	}{
		{"0", api.Dec{}},
		{"-0", api.Dec{}},
		{"0.000", api.Dec{}},
		{"-0.0e-10", api.Dec{}},
		{"0e5", api.Dec{}},
		{"0e999999", api.Dec{}},
		{"-0E-999999", api.Dec{}},
		{"1", made(false, "1", 0)},
		{"-1", made(true, "1", 0)},
		{"10", made(false, "1", 1)},
		{"1.50", made(false, "15", -1)},
		{"0.5", made(false, "5", -1)},
		{"-0.0050", made(true, "5", -3)},
		{"100.001", made(false, "100001", -3)},
		{"1e30", made(false, "1", 30)},
		{"1E+30", made(false, "1", 30)},
		{"12.5e-3", made(false, "125", -4)},
		{"12.5e1", made(false, "125", 0)},
		{"4294967297", api.Dec{Coef: []uint32{1, 1}}},
		{"1e1000", made(false, "1", 1000)},
		{"1e-1000", made(false, "1", -1000)},
		{"0.1e-999", made(false, "1", -1000)},
		{"0.1e1001", made(false, "1", 1000)},
		{"10e999", made(false, "1", 1000)},
		{"100e-1002", made(false, "1", -1000)},
		{"1e00000000000000000001000", made(false, "1", 1000)},
		{"1e-00000000000000000001000", made(false, "1", -1000)},
		{"1e0000000", made(false, "1", 0)},
		{"1e0000001", made(false, "1", 1)},
		{times("9", 300), made(false, times("9", 300), 0)},
		{"0." + times("0", 999) + "1", made(false, "1", -1000)},
	} {
		got, e := Parse(c.s)
		checkAnswer(t, "Parse of "+c.s, got, e, c.want, api.OK)
	}
}

func TestP22ParseWrong(t *testing.T) {
	zeros := func(n int) string { return "1." + times("0", n-2) }
	long := "1" + times("0", 299) + "1"
	for _, c := range []struct {
		name, s string
		want    api.Errno
	}{
		{"none", "", api.ErrToken},
		{"a sign alone", "-", api.ErrToken},
		{"a plus", "+1", api.ErrToken},
		{"0 ahead", "01", api.ErrToken},
		{"0 ahead, below 0", "-01", api.ErrToken},
		{"0 twice", "00", api.ErrToken},
		{"no digit ahead of the point", ".5", api.ErrToken},
		{"no digit behind the point", "1.", api.ErrToken},
		{"no digit behind the point, but e", "1.e5", api.ErrToken},
		{"no digit behind e", "1e", api.ErrToken},
		{"no digit behind the sign of e", "1e+", api.ErrToken},
		{"two signs of e", "1e+-5", api.ErrToken},
		{"two signs of e, the other way", "1e-+5", api.ErrToken},
		{"a fraction of e", "1e5.0", api.ErrToken},
		{"a blank ahead", " 1", api.ErrToken},
		{"a blank behind", "1 ", api.ErrToken},
		{"a newline behind", "1\n", api.ErrToken},
		{"a comma", "1,5", api.ErrToken},
		{"an underline", "1_0", api.ErrToken},
		{"hexadecimal", "0x10", api.ErrToken},
		{"a word", "NaN", api.ErrToken},
		{"another word", "Infinity", api.ErrToken},
		{"the octet 0 behind", "1\x00", api.ErrToken},
		{"an octet of no character", "1\xff", api.ErrToken},
		{"a digit of another script", "\u0661", api.ErrToken},
		{"the octet below 0", "1/", api.ErrToken},
		{"the octet above 9", "1:", api.ErrToken},
		{"2000 octets, one wrong", zeros(1999) + "x", api.ErrToken},
		{"2001 octets", zeros(2001), api.ErrLong},
		{"2001 octets, the first wrong", "x" + zeros(2000), api.ErrToken},
		{"2001 octets, the last wrong", zeros(2000) + "x", api.ErrToken},
		{"2001 octets, no digit behind e", zeros(2000) + "e", api.ErrToken},
		{"2001 octets of digits", times("9", 2001), api.ErrLong},
		{"2001 octets, all but one of an exponent", "1e" + times("0", 1999), api.ErrLong},
		{"2001 octets, a great exponent", "1e" + times("9", 1999), api.ErrLong},
		{"very many octets", "-" + times("9", 1<<18), api.ErrLong},
		{"very many octets, the last wrong", times("9", 1<<18) + "e", api.ErrToken},
		{"2000 octets of digits", times("9", 2000), api.ErrDigits},
		{"2000 octets, a great exponent", "1e" + times("9", 1998), api.ErrExp},
		{"7 digits of the exponent", "1e1000000", api.ErrExp},
		{"7 digits of the exponent of 0", "0e1000000", api.ErrExp},
		{"7 digits of the exponent of 0, below 0", "0e-1000000", api.ErrExp},
		{"7 digits of the exponent, and 0", "0e0001000000", api.ErrExp},
		{"7 digits of the exponent, ahead of too many digits", long + "e1000000", api.ErrExp},
		{"too many digits, 6 of the exponent", long + "e999999", api.ErrDigits},
		{"too many digits, 6 of the exponent below 0", long + "e-999999", api.ErrDigits},
		{"too many digits, the exponent out of range", long + "e1001", api.ErrDigits},
		{"6 digits of the exponent", "1e999999", api.ErrExp},
		{"6 digits of the exponent, below 0", "1e-999999", api.ErrExp},
		{"the exponent above", "1e1001", api.ErrExp},
		{"the exponent below", "1e-1001", api.ErrExp},
		{"the exponent below, with a fraction", "0.1e-1000", api.ErrExp},
		{"the exponent above, divided", "10e1000", api.ErrExp},
		{"301 digits", long, api.ErrDigits},
		{"301 digits about the point", "1." + times("0", 299) + "1", api.ErrDigits},
	} {
		got, e := Parse(c.s)
		checkAnswer(t, "Parse, "+c.name, got, e, api.Dec{}, c.want)
	}
}

// TestP22ParseLength: texts of 2000 octets and close to it, with what makes their length in each of their parts.
func TestP22ParseLength(t *testing.T) {
	for _, size := range []int{1998, 1999, 2000, 2001, 2002} {
		for _, c := range [][2]string{{"", "e-1990"}, {"1.", ""}, {"1e", ""}, {"1e-", ""}, {"0.", "1e1900"}, {"-0.", ""}, {"0.", "1"}, {"7", "e-1995"}, {"1.5e+", "7"}} {
			checkParse(t, c[0]+times("0", size-len(c[0])-len(c[1]))+c[1])
		}
	}
	got, e := Parse("1." + times("0", 1998))
	checkAnswer(t, "Parse, 2000 octets", got, e, made(false, "1", 0), api.OK)
	got, e = Parse("1e" + times("0", 1997) + "5")
	checkAnswer(t, "Parse, 2000 octets, most of an exponent", got, e, made(false, "1", 5), api.OK)
}

func TestP22Print(t *testing.T) {
	for _, c := range []struct {
		digits string
		exp    int
		want   string
	}{
		{"1", 0, "1"},
		{"12", 0, "12"},
		{"12", 3, "12000"},
		{"15", -1, "1.5"},
		{"12345", -3, "12.345"},
		{"5", -1, "0.5"},
		{"25", -2, "0.25"},
		{"5", -2, "0.05"},
		{"1", -6, "0.000001"},
		{"1", -7, "1e-7"},
		{"12", -7, "0.0000012"},
		{"12", -8, "1.2e-7"},
		{"123", -8, "0.00000123"},
		{"123", -9, "1.23e-7"},
		{"1", 20, "100000000000000000000"},
		{"1", 21, "1e+21"},
		{"12", 19, "120000000000000000000"},
		{"12", 20, "1.2e+21"},
		{"123456789012345678901", 0, "123456789012345678901"},
		{"1234567890123456789012", 0, "1.234567890123456789012e+21"},
		{"1234567890123456789012", -1, "123456789012345678901.2"},
		{"1234567890123456789012345", -3, "1.234567890123456789012345e+21"},
		{"1234567890123456789012345", -4, "123456789012345678901.2345"},
		{"1", 30, "1e+30"},
		{"1", 1000, "1e+1000"},
		{"1", -1000, "1e-1000"},
		{"1", 99, "1e+99"},
		{"1", 100, "1e+100"},
		{times("9", 300), 1000, "9." + times("9", 299) + "e+1299"},
		{times("9", 300), 0, "9." + times("9", 299) + "e+299"},
		{times("9", 300), -300, "0." + times("9", 300)},
		{times("9", 300), -305, "0.00000" + times("9", 300)},
		{times("9", 300), -306, "9." + times("9", 299) + "e-7"},
		{times("9", 300), -279, times("9", 21) + "." + times("9", 279)},
		{times("9", 300), -278, "9." + times("9", 299) + "e+21"},
		{times("9", 300), -1000, "9." + times("9", 299) + "e-701"},
		{"102", 0, "102"},
		{"102", -1, "10.2"},
		{"1002", -3, "1.002"},
	} {
		if s, e := Print(made(false, c.digits, c.exp)); s != c.want || e != api.OK {
			t.Errorf("Print of %s at %d: %s, error %d", c.digits, c.exp, s, e)
		}
		if s, e := Print(made(true, c.digits, c.exp)); s != "-"+c.want || e != api.OK {
			t.Errorf("Print of -%s at %d: %s, error %d", c.digits, c.exp, s, e)
		}
	}
	for _, a := range []api.Dec{{}, {Coef: []uint32{}}} {
		if s, e := Print(a); s != "0" || e != api.OK {
			t.Errorf("Print of 0: %s, error %d", s, e)
		}
	}
}

// TestP22PrintForm: each text is the number, in the form that it should have and in no more octets than that needs.
func TestP22PrintForm(t *testing.T) {
	plainForm := regexp.MustCompile(`^-?(0|[1-9][0-9]*)(\.[0-9]*[1-9])?$`)
	powerForm := regexp.MustCompile(`^-?[1-9](\.[0-9]*[1-9])?e([+-])(0|[1-9][0-9]*)$`)
	decimals(t, func(a api.Dec) {
		s, e := Print(a)
		n, ok := new(big.Rat).SetString(s)
		if e != api.OK || !ok || n.Cmp(new(big.Rat).SetFrac(scaled(a), ten(1000))) != 0 {
			t.Errorf("Print of %s: %s, error %d", show(a), s, e)
		}
		point := len(toBig(a.Coef).String()) + a.Exp
		form := powerForm
		if point >= -5 && point <= 21 {
			form = plainForm
		}
		if !form.MatchString(s) || strings.HasPrefix(s, "-") != a.Neg {
			t.Errorf("Print of %s: %s has another form", show(a), s)
		}
	})
}

// TestP24: a decimal comes back from its text.
func TestP24(t *testing.T) {
	back := func(a api.Dec) {
		t.Helper()
		s, e1 := Print(a)
		b, e2 := Parse(s)
		if e1 != api.OK || e2 != api.OK || !same(a, b) {
			t.Errorf("%s, printed and read: %s, %s, errors %d, %d", show(a), s, show(b), e1, e2)
		}
	}
	decimals(t, back)
	for exp := -1000; exp <= 1000; exp++ {
		for _, digits := range []string{"1", "12", "909", "1234567890123456789012345"} {
			back(made(exp%2 == 0, digits, exp))
		}
	}
}
