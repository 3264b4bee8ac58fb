package arith

import (
	"testing"

	"bolter/api"
)

func div() call { return call{"Div", Div} }
func mod() call { return call{"Mod", Mod} }

// TestP111Div: numbers; texts, cut at others.
func TestP111Div(t *testing.T) {
	div().table(t, [][3]string{
		{"6", "3", "2"}, {"1", "8", "0.125"}, {"-1", "4", "-0.25"}, {"0", "5", "0"}, {"0", "-5", "0"}, {"1", "3", "0.3333333333333333333333333333333333333333"}, {"-2", "3", "-0.6666666666666666666666666666666666666667"}, {"1e500", "1e-500", "1e1000"},
		{`"a,b"`, `","`, `["a","b"]`}, {`"a,b,c"`, `","`, `["a","b","c"]`}, {`"abc"`, `","`, `["abc"]`}, {`"a"`, `"abc"`, `["a"]`},
		// At both ends, side by side, all of it.
		{`",a"`, `","`, `["","a"]`}, {`"a,"`, `","`, `["a",""]`}, {`",a,"`, `","`, `["","a",""]`}, {`"a,,b"`, `","`, `["a","","b"]`}, {`",,"`, `","`, `["","",""]`}, {`","`, `","`, `["",""]`}, {`"ab"`, `"ab"`, `["",""]`}, {`"abab"`, `"ab"`, `["","",""]`},
		// One that overlaps itself.
		{`"aaa"`, `"aa"`, `["","a"]`}, {`"aaaa"`, `"aa"`, `["","",""]`}, {`"aaaaa"`, `"aa"`, `["","","a"]`}, {`"ababa"`, `"aba"`, `["","ba"]`}, {`"xababax"`, `"aba"`, `["x","bax"]`}, {`"aab"`, `"ab"`, `["a",""]`}, {`"aabaab"`, `"aab"`, `["","",""]`},
		// Of an empty one the characters, not the octets.
		{`"abc"`, `""`, `["a","b","c"]`}, {`"é€\ud83d\ude00z"`, `""`, `["é","€","\ud83d\ude00","z"]`}, {`"a"`, `""`, `["a"]`}, {`"\u0000\ufffd"`, `""`, `["\u0000","\ufffd"]`},
		// An empty text has no parts.
		{`""`, `","`, `[]`}, {`""`, `"abc"`, `[]`}, {`""`, `""`, `[]`},
		// Characters that share octets.
		{`"é,è"`, `"é"`, `["",",è"]`}, {`"éàé"`, `"à"`, `["é","é"]`}, {`"a\u0000b"`, `"\u0000"`, `["a","b"]`}, {`"a.b"`, `"."`, `["a","b"]`}, {`"a b\nc"`, `" "`, `["a","b\nc"]`},
	})
}

// TestP111DivTypes: every pair of kinds; null, too.
func TestP111DivTypes(t *testing.T) {
	div().types(t, func(a, b api.Value) bool { return both(a, b, 3, 4) })
}

// TestP111DivNumbers: what quot tells of numbers.
func TestP111DivNumbers(t *testing.T) {
	for _, n := range []string{"0", "1", "-1.5", "1e1000"} {
		div().check(t, one(n), one("0"), no(api.ErrZero))
		div().check(t, one(n), one("-0.0"), no(api.ErrZero))
	}
	div().check(t, one("1e600"), one("1e-401"), no(api.ErrExp))
	div().check(t, one("1e-600"), one("1e401"), no(api.ErrExp))
}

// TestP111DivMany: as many parts as a list may have, and more.
func TestP111DivMany(t *testing.T) {
	parts := func(n int, s string) told { return as(list(many(n, text(s))...)) }
	div().check(t, long("a", api.MaxItems), text(""), parts(api.MaxItems, "a"))
	div().check(t, long("é", api.MaxItems), text(""), parts(api.MaxItems, "é"))
	div().check(t, long("a", api.MaxItems+1), text(""), no(api.ErrLong))
	div().check(t, long(",", api.MaxItems-1), text(","), parts(api.MaxItems, ""))
	div().check(t, long(",", api.MaxItems), text(","), no(api.ErrLong))
	div().check(t, long(",,", api.MaxItems-1), text(",,"), parts(api.MaxItems, ""))
	// More than MaxSize values in all: the list is one, too.
	div().check(t, long("a", api.MaxSize-1), text(""), no(api.ErrLong))
	div().check(t, long("a", api.MaxSize), text(""), no(api.ErrCount))
	div().check(t, long(",", api.MaxSize-2), text(","), no(api.ErrLong))
	div().check(t, long(",", api.MaxSize-1), text(","), no(api.ErrCount))
	div().check(t, long(",", api.MaxSize), text(","), no(api.ErrCount))
	div().check(t, long(",", api.MaxText), long(",", api.MaxText), parts(2, ""))
	div().check(t, long(",", api.MaxText), long(",", api.MaxText/2), parts(3, ""))
	div().check(t, long("a", api.MaxText), text("b"), as(list(long("a", api.MaxText))))
}

// TestP111Mod: numbers, signs of both ways.
func TestP111Mod(t *testing.T) {
	mod().table(t, [][3]string{
		{"7", "3", "1"}, {"-7", "3", "-1"}, {"7", "-3", "1"}, {"-7", "-3", "-1"}, {"6", "3", "0"}, {"-6", "3", "0"}, {"0", "3", "0"}, {"2", "3", "2"}, {"7.9", "3.9", "1"}, {"-7.9", "3.9", "-1"}, {"0.5", "2", "0"}, {"-0.5", "2", "0"}, {"1e300", "7", "1"}, {"5", "1e300", "5"},
	})
	for _, zero := range []string{"0", "0.5", "-0.99", "1e-1000"} {
		mod().check(t, one("7"), one(zero), no(api.ErrZero))
		mod().check(t, one("0"), one(zero), no(api.ErrZero))
	}
	mod().types(t, func(a, b api.Value) bool { return both(a, b, 3) })
}

// TestP111Neg: a number; every other kind is ErrType.
func TestP111Neg(t *testing.T) {
	for _, row := range [][2]string{{"1", "-1"}, {"-1.5", "1.5"}, {"0", "0"}, {"-0", "0"}, {"1e1000", "-1e1000"}, {"-1e-1000", "1e-1000"}, {"123456789012345678901234567890", "-123456789012345678901234567890"}} {
		checkNeg(t, one(row[0]), is(row[1]))
	}
	for _, v := range kinds() {
		if v.Kind != 3 {
			checkNeg(t, v, no(api.ErrType))
		}
	}
}

// TestP111DivWords: whatever is divided, as the chapter's words say.
func TestP111DivWords(t *testing.T) {
	d := dice(1114)
	met := map[api.Errno]int{}
	for range 20000 {
		a, b := d.two()
		for _, c := range []call{div(), mod()} {
			want := wantOf(c.name, a, b)
			c.check(t, a, b, want)
			met[want.e]++
		}
	}
	if met[api.OK] < 5000 || met[api.ErrType] < 5000 || met[api.ErrZero] < 500 {
		t.Error("too few of some kind:", met)
	}
}

// TestP111Errors: value.Check's errors of all values go ahead, the first value's where both have one.
func TestP111Errors(t *testing.T) {
	for _, w := range wrongs() {
		checkNeg(t, w.v, no(w.e))
		checkNeg(t, list(w.v), no(w.e))
		for _, c := range calls() {
			for _, v := range kinds() {
				c.check(t, w.v, v, no(w.e))
				c.check(t, v, w.v, no(w.e))
				c.check(t, list(v, w.v), v, no(w.e))
			}
			for _, x := range wrongs() {
				c.check(t, w.v, x.v, no(w.e))
			}
		}
		for _, op := range append(operators(), "", "=") {
			checkOrder(t, op, w.v, num(1), no(w.e))
			checkOrder(t, op, num(1), w.v, no(w.e))
			for _, x := range wrongs() {
				checkOrder(t, op, w.v, x.v, no(w.e))
			}
		}
	}
}
