package kinds

import (
	"testing"

	"bolter/api"
)

// TestP121Type: each of the seven kinds.
func TestP121Type(t *testing.T) {
	typeOf().table(t, [][2]string{{"null", `"null"`}, {"false", `"boolean"`}, {"true", `"boolean"`}, {"0", `"number"`}, {"-1e30", `"number"`}, {`""`, `"string"`}, {`"null"`, `"string"`}, {"[]", `"array"`}, {"[{}]", `"array"`}, {"{}", `"object"`}, {`{"a":[]}`, `"object"`}})
}

// TestP121Length: characters, not octets; of a list or an object those values that stand in it itself.
func TestP121Length(t *testing.T) {
	length().table(t, [][2]string{
		{"null", "0"}, {"-3", "3"}, {"3", "3"}, {"0", "0"}, {"-0.50", "0.5"}, {"-1e1000", "1e1000"}, {"1e-1000", "1e-1000"}, {"-123456789012345678901234567890", "123456789012345678901234567890"},
		{`""`, "0"}, {`"a"`, "1"}, {`"é€\ud83d\ude00z"`, "4"}, {`"\u0000\ufffd"`, "2"}, {`"a\u0301"`, "2"}, {`"\r\n"`, "2"},
		{"[]", "0"}, {"[null]", "1"}, {"[[1,2],[3]]", "2"}, {"{}", "0"}, {`{"a":null}`, "1"}, {`{"a":{"b":1,"c":2},"b":[1,2,3]}`, "2"},
	})
	length().check(t, as(num(api.MaxText/2)), long("é", api.MaxText/2))
	length().check(t, as(num(api.MaxText)), long("a", api.MaxText))
	length().check(t, as(num(api.MaxItems)), list(many(api.MaxItems, num(1))...))
	length().check(t, as(num(api.MaxItems)), keyed(many(api.MaxItems, list())...))
	length().types(t, ofKinds(0, 3, 4, 5, 6))
}

// TestP121Keys: an object's rise; a list's places are whole numbers from 0 on.
func TestP121Keys(t *testing.T) {
	keys().table(t, [][2]string{
		{"{}", "[]"}, {"[]", "[]"}, {`{"b":1,"a":null,"é":[],"":{},"B":0}`, `["","B","a","b","é"]`}, {`{"a":{"b":1}}`, `["a"]`}, {`{"10":1,"9":2}`, `["10","9"]`}, {"[5]", "[0]"}, {`[null,[7,8],{"a":1}]`, "[0,1,2]"},
	})
	for _, n := range []int{1, 2, 255, 256, 257, api.MaxItems - 1, api.MaxItems} {
		places, names := list(), list()
		of := keyed(many(n, num(7))...)
		for i, key := range of.Keys {
			places.List = append(places.List, num(i))
			names.List = append(names.List, text(key))
		}
		keys().check(t, as(places), list(many(n, api.Value{})...))
		keys().check(t, as(names), of)
	}
	keys().check(t, as(list(long("é", api.MaxText/2))), object([]string{long("é", api.MaxText/2).Text}, num(1)))
	keys().types(t, ofKinds(5, 6))
}

// TestP121Has: a key of an object, a place of a list; a value that is null is there, too.
func TestP121Has(t *testing.T) {
	has().truths(t, [][2]string{
		{`{"a":1}`, `"a"`}, {`{"a":null,"b":false}`, `"a"`}, {`{"a":null,"b":false}`, `"b"`}, {`{"":1}`, `""`}, {`{"é":1,"z":2,"A":3}`, `"\u00e9"`}, {`{"\u0000":1}`, `"\u0000"`},
		{"[7]", "0"}, {"[7]", "0.99"}, {"[7,8,9]", "2"}, {"[7,8,9]", "2.999"}, {"[null]", "0"}, {"[[],[]]", "1"}, {"[1]", "-0.0"}, {"[1]", "1e-1000"}, {"[1,2]", "1.0"},
	}, [][2]string{
		{`{"a":1}`, `"b"`}, {`{"a":1}`, `"A"`}, {`{"a":1}`, `""`}, {`{"a":{"b":1}}`, `"b"`}, {`{"ab":1}`, `"a"`}, {`{"a":1}`, `"ab"`}, {`{}`, `"a"`}, {`{"a":1,"c":2}`, `"b"`}, {`{"é":1}`, `"e\u0301"`}, {`{"0":1}`, `"0.0"`},
		{"[7]", "1"}, {"[7,8,9]", "3"}, {"[7,8,9]", "3.5"}, {"[7]", "-1"}, {"[7]", "-0.5"}, {"[7]", "-1e-1000"}, {"[7]", "-3"}, {"[]", "0"}, {"[]", "-1"}, {"[7]", "9007199254740992"}, {"[7]", "9007199254740993"}, {"[7]", "-9007199254740993"}, {"[7]", "18446744073709551616"}, {"[7]", "4294967296"}, {"[7]", "1e1000"}, {"[7]", "-1e1000"}, {"[7]", "1e20"}, {"[7,8]", "18446744073709551617"},
	})
	full := list(many(api.MaxItems, num(1))...)
	has().check(t, is("true"), full, num(api.MaxItems-1))
	has().check(t, is("false"), full, num(api.MaxItems))
	of := keyed(full.List...)
	for _, at := range []int{0, 1, 2047, 2048, api.MaxItems - 1} {
		has().check(t, is("true"), of, text(of.Keys[at]))
		has().check(t, is("false"), of, text(of.Keys[at]+"0"))
	}
	has().types(t, func(l ...api.Value) bool { return l[0].Kind == 6 && l[1].Kind == 4 || l[0].Kind == 5 && l[1].Kind == 3 })
}

// TestP121Words: whatever is asked for, as the chapter's words say.
func TestP121Words(t *testing.T) {
	d := dice(1211)
	for _, c := range []call{typeOf(), length(), keys(), has(), within()} {
		met := map[api.Errno]int{}
		for range 20000 {
			l := d.some(c.count)
			want := want(c.name, l...)
			c.check(t, want, l...)
			met[want.e]++
		}
		if met[api.OK] < 5000 || c.name != "Type" && met[api.ErrType] < 200 {
			t.Errorf("%s: too few of some kind: %v", c.name, met)
		}
	}
}

// TestP121Errors: value.Check's errors of all values go ahead, the first value's where both have one.
func TestP121Errors(t *testing.T) {
	for _, w := range wrongs() {
		for _, c := range calls() {
			if c.count == 1 {
				c.check(t, no(w.e), w.v)
				c.check(t, no(w.e), list(num(1), w.v))
				c.check(t, no(w.e), object([]string{"key", "value"}, text("a"), w.v))
				continue
			}
			for _, v := range kinds() {
				c.check(t, no(w.e), w.v, v)
				c.check(t, no(w.e), v, w.v)
				c.check(t, no(w.e), list(v, w.v), v)
				c.check(t, no(w.e), v, list(v, w.v))
			}
			for _, x := range wrongs() {
				c.check(t, no(w.e), w.v, x.v)
			}
		}
	}
}
