package arith

import (
	"strings"
	"testing"

	"bolter/api"
)

func mul() call { return call{"Mul", Mul} }

// TestP111Mul: numbers; objects, what both have multiplied if it is objects.
func TestP111Mul(t *testing.T) {
	mul().table(t, [][3]string{
		{"1.5", "2", "3"}, {"0", "5", "0"}, {"-2", "3", "-6"}, {"-2", "-0.5", "1"}, {"1e20", "1e20", "1e40"}, {"0.1", "0.1", "0.01"}, {"-3", "0", "0"},
		{`{}`, `{}`, `{}`}, {`{"a":1}`, `{}`, `{"a":1}`}, {`{}`, `{"a":1}`, `{"a":1}`}, {`{"a":1}`, `{"b":2}`, `{"a":1,"b":2}`}, {`{"b":1}`, `{"a":2,"c":3}`, `{"a":2,"b":1,"c":3}`},
		// None is an object, or one is: b's value.
		{`{"a":2}`, `{"a":3}`, `{"a":3}`}, {`{"a":[1]}`, `{"a":[2]}`, `{"a":[2]}`}, {`{"a":"x"}`, `{"a":2}`, `{"a":2}`}, {`{"a":1}`, `{"a":null}`, `{"a":null}`}, {`{"a":null}`, `{"a":{"x":1}}`, `{"a":{"x":1}}`}, {`{"a":{"x":1}}`, `{"a":null}`, `{"a":null}`}, {`{"a":{"x":1}}`, `{"a":5}`, `{"a":5}`}, {`{"a":5}`, `{"a":{"x":1}}`, `{"a":{"x":1}}`}, {`{"a":{"x":1}}`, `{"a":[{"y":2}]}`, `{"a":[{"y":2}]}`},
		// Both are.
		{`{"a":{"x":1}}`, `{"a":{"y":2}}`, `{"a":{"x":1,"y":2}}`}, {`{"a":{"x":1}}`, `{"a":{"x":2}}`, `{"a":{"x":2}}`}, {`{"a":{"x":1}}`, `{"a":{}}`, `{"a":{"x":1}}`}, {`{"a":{}}`, `{"a":{"x":1}}`, `{"a":{"x":1}}`}, {`{"a":{}}`, `{"a":{}}`, `{"a":{}}`},
		{`{"a":{"b":{"c":{"d":1,"e":2}},"f":3},"g":{"h":1}}`, `{"a":{"b":{"c":{"e":{"x":1},"k":5}},"g":6},"g":7,"i":{"j":8}}`, `{"a":{"b":{"c":{"d":1,"e":{"x":1},"k":5}},"f":3,"g":6},"g":7,"i":{"j":8}}`},
		// Objects within lists are not gone into.
		{`{"a":[{"x":1}]}`, `{"a":[{"y":2}]}`, `{"a":[{"y":2}]}`}, {`{"":{"":{"":1}}}`, `{"":{"":{"a":2}}}`, `{"":{"":{"":1,"a":2}}}`}, {`{"é":{"z":1},"z":2}`, `{"é":{"zz":3},"y":4}`, `{"y":4,"z":2,"é":{"z":1,"zz":3}}`},
	})
}

// TestP111MulText: a text so many times as a number says, either way round.
func TestP111MulText(t *testing.T) {
	for _, row := range [][3]string{
		{`"ab"`, "1", `"ab"`}, {`"ab"`, "2", `"abab"`}, {`"ab"`, "3", `"ababab"`}, {`"ab"`, "2.9999", `"abab"`}, {`"ab"`, "1.5", `"ab"`}, {`"ab"`, "3.0", `"ababab"`}, {`"é€"`, "2", `"é€é€"`}, {`"\u0000"`, "3", `"\u0000\u0000\u0000"`},
		{`"ab"`, "0.99999999999", "null"}, {`"ab"`, "0.5", "null"}, {`"ab"`, "0", "null"}, {`"ab"`, "-0", "null"}, {`"ab"`, "-0.5", "null"}, {`"ab"`, "-1", "null"}, {`"ab"`, "-2.5", "null"}, {`"ab"`, "-1e300", "null"}, {`"ab"`, "-9007199254740993", "null"}, {`"ab"`, "1e-1000", "null"}, {`"ab"`, "-1e-1000", "null"},
		{`""`, "1", `""`}, {`""`, "5", `""`}, {`""`, "0.5", "null"}, {`""`, "0", "null"}, {`""`, "-1", "null"}, {`""`, "16385", `""`}, {`""`, "1e300", `""`}, {`""`, "1e1000", `""`}, {`""`, "9007199254740992", `""`}, {`""`, "9007199254740993.5", `""`}, {`""`, "18446744073709551617", `""`}, {`""`, "-18446744073709551615", "null"}, {`""`, "-1e1000", "null"},
	} {
		mul().check(t, one(row[0]), one(row[1]), is(row[2]))
		mul().check(t, one(row[1]), one(row[0]), is(row[2]))
	}
}

// TestP111MulLong: as many octets as a text may have, and more.
func TestP111MulLong(t *testing.T) {
	for _, c := range []struct {
		s, times string
		want     told
	}{
		{"a", "16384", as(long("a", api.MaxText))}, {"a", "16384.9", as(long("a", api.MaxText))}, {"a", "16385", no(api.ErrLong)}, {"é", "8192", as(long("é", api.MaxText/2))}, {"é", "8193", no(api.ErrLong)}, {"abc", "5461", as(long("abc", 5461))}, {"abc", "5462", no(api.ErrLong)},
		{"a", "1e6", no(api.ErrLong)}, {"a", "1e1000", no(api.ErrLong)}, {"a", "4294967296", no(api.ErrLong)}, {"a", "4294967297", no(api.ErrLong)}, {"ab", "9223372036854775808", no(api.ErrLong)}, {"ab", "18446744073709551616", no(api.ErrLong)}, {"ab", "18446744073709551617", no(api.ErrLong)}, {"ab", "9007199254740992", no(api.ErrLong)}, {"ab", "9007199254740993", no(api.ErrLong)}, {"ab", "9007199254740992.5", no(api.ErrLong)},
		{strings.Repeat("a", api.MaxText), "1", as(long("a", api.MaxText))}, {strings.Repeat("a", api.MaxText), "1.99", as(long("a", api.MaxText))}, {strings.Repeat("a", api.MaxText), "2", no(api.ErrLong)}, {strings.Repeat("a", api.MaxText), "0.99", is("null")}, {strings.Repeat("a", api.MaxText), "1e300", no(api.ErrLong)}, {strings.Repeat("a", api.MaxText), "9007199254740992", no(api.ErrLong)}, {strings.Repeat("a", 1<<11), "9007199254740992", no(api.ErrLong)}, {strings.Repeat("a", 1<<10), "9007199254740992", no(api.ErrLong)}, {strings.Repeat("a", api.MaxText/2), "2", as(long("a", api.MaxText))}, {strings.Repeat("a", api.MaxText/2+1), "2", no(api.ErrLong)},
	} {
		mul().check(t, text(c.s), one(c.times), c.want)
		mul().check(t, one(c.times), text(c.s), c.want)
	}
}

// TestP111MulTypes: every pair of kinds; null, too.
func TestP111MulTypes(t *testing.T) {
	mul().types(t, func(a, b api.Value) bool {
		return both(a, b, 3, 6) || a.Kind+b.Kind == 7 && (a.Kind == 3 || b.Kind == 3)
	})
}

// TestP111MulNumbers: what dec tells of numbers.
func TestP111MulNumbers(t *testing.T) {
	wide := one("1" + strings.Repeat("0", 200) + "1")
	mul().check(t, wide, wide, no(api.ErrDigits))
	mul().check(t, one("1e600"), one("1e401"), no(api.ErrExp))
	mul().check(t, one("1e600"), one("-1e400"), is("-1e1000"))
	mul().check(t, one("1e-600"), one("1e-401"), no(api.ErrExp))
	mul().check(t, one("1e-600"), one("0"), is("0"))
}

// TestP111MulLimits: objects with as much as may be, and more.
func TestP111MulLimits(t *testing.T) {
	in := func(v api.Value) api.Value { return object([]string{"x"}, v) }
	mul().check(t, keyed(0, 4000, num(1)), keyed(3900, 196, num(1)), as(keyed(0, api.MaxItems, num(1))))
	mul().check(t, keyed(0, 4000, num(1)), keyed(3900, 197, num(1)), no(api.ErrLong))
	mul().check(t, in(keyed(0, 4000, num(1))), in(keyed(3900, 196, num(2))), as(in(object(keyed(0, api.MaxItems, num(1)).Keys, append(many(3900, num(1)), many(196, num(2))...)...))))
	mul().check(t, in(keyed(0, 4000, num(1))), in(keyed(3900, 197, num(1))), no(api.ErrLong))
	full := list(many(api.MaxItems-1, num(1))...) // of MaxItems values in all
	a, b := object([]string{"a", "b", "c"}, full, full, full), object([]string{"d"}, full)
	mul().check(t, a, b, no(api.ErrCount))
	mul().check(t, in(a), in(b), no(api.ErrCount))
	mul().check(t, in(a), in(object([]string{"c", "d"}, num(1), full)), as(in(object([]string{"a", "b", "c", "d"}, full, full, num(1), full))))
	// Too many values in all go ahead of too many at one place.
	mul().check(t, object([]string{"a", "b", "x"}, full, full, keyed(0, 4000, num(1))), object([]string{"c", "x"}, full, keyed(4000, 4000, num(1))), no(api.ErrCount))
	mul().check(t, object([]string{"a", "x"}, full, keyed(0, 4000, num(1))), in(keyed(4000, 4000, num(1))), no(api.ErrLong))
}

// TestP111MulDeep: objects as deep as may be.
func TestP111MulDeep(t *testing.T) {
	a, b, want := one(`{"a":1}`), one(`{"b":2}`), one(`{"a":1,"b":2}`)
	for range api.MaxDepth - 1 {
		a, b, want = object([]string{"x"}, a), object([]string{"x"}, b), object([]string{"x"}, want)
	}
	mul().check(t, a, b, as(want))
	mul().check(t, object([]string{"x"}, a), b, no(api.ErrDepth))
}

// TestP111MulWords: whatever is multiplied, as the chapter's words say.
func TestP111MulWords(t *testing.T) {
	d := dice(1113)
	met := map[api.Errno]int{}
	for range 20000 {
		a, b := d.two()
		want := wantOf("Mul", a, b)
		mul().check(t, a, b, want)
		met[want.e]++
	}
	if met[api.OK] < 5000 || met[api.ErrType] < 5000 || met[api.ErrLong] < 100 {
		t.Error("too few of some kind:", met)
	}
}
