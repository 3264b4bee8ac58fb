package path

import (
	"math/big"
	"strings"
	"testing"

	"bolter/api"
	"bolter/value"
)

// TestP101Key: an object's value at a key, or null.
func TestP101Key(t *testing.T) {
	v := one(`{"": 0, "a": 1, "aa": null, "b": {"a": 2}, "end": 3, "é": [4], "start": 5}`)
	for step, want := range map[string]string{
		`""`: "0", `"a"`: "1", `"aa"`: "null", `"b"`: `{"a": 2}`, `"end"`: "3", `"é"`: "[4]", `"start"`: "5",
		`"A"`: "null", `"ab"`: "null", `"e"`: "null", `"0"`: "null", `"zz"`: "null", `" "`: "null",
	} {
		checkIndex(t, v, one(step), is(want))
	}
	checkIndex(t, object(nil), text("a"), is("null"))
	all := object(keys(api.MaxItems), many(api.MaxItems, number(7))...)
	for _, key := range []string{"1000000", "1000001", "1002048", "1004095"} {
		checkIndex(t, all, text(key), is("7"))
	}
	for _, key := range []string{"999999", "1004096", "100", ""} {
		checkIndex(t, all, text(key), is("null"))
	}
}

// TestP101Place: a list's value at a place, made whole downward, below 0 from the end; null where there is none.
func TestP101Place(t *testing.T) {
	v := one(`[10, 11, 12, 13]`)
	for step, want := range map[string]string{
		"0": "10", "1": "11", "3": "13", "4": "null", "5": "null", "100": "null",
		"-1": "13", "-2": "12", "-4": "10", "-5": "null", "-100": "null",
		"0.5": "10", "0.999999": "10", "1.5": "11", "3.9999999999": "13", "3.0": "13", "4.1": "null", "1e-1000": "10",
		"-0.5": "13", "-1e-1000": "13", "-0.9": "13", "-1.1": "12", "-3.5": "10", "-3.0001": "10", "-4.5": "null", "-4.0": "10",
		"1e0": "11", "30e-1": "13",
	} {
		checkIndex(t, v, one(step), is(want))
	}
	for _, step := range []string{"0", "-1", "1", "0.5"} {
		checkIndex(t, list(), one(step), is("null"))
	}
	long := list(many(api.MaxItems, number(7))...)
	for step, want := range map[string]string{"0": "7", "4095": "7", "-4096": "7", "4096": "null", "-4097": "null", "-4095.5": "7", "-4096.5": "null"} {
		checkIndex(t, long, one(step), is(want))
	}
}

// far are numbers beyond -2^53 to 2^53, most of which are near 0 in fewer bits.
func far() []string {
	bits := func(n uint) *big.Int { return new(big.Int).Lsh(big.NewInt(1), n) }
	out := []string{"1e20", "1e300", "1e1000", "123456789e900", strings.Repeat("9", 300), strings.Repeat("9", 299) + ".9", "0.1e1001"}
	for _, n := range []uint{31, 32, 33, 52, 53, 54, 62, 63, 64, 65, 96, 128, 256} {
		for less := range int64(5) {
			out = append(out, new(big.Int).Add(bits(n), big.NewInt(2-less)).String(), new(big.Int).Add(bits(n), big.NewInt(-less)).String()+".5")
		}
	}
	return out
}

// TestP101Far: numbers beyond -2^53 to 2^53 are as the nearest of both.
func TestP101Far(t *testing.T) {
	v, s := one("[10, 11, 12, 13]"), text("abcd")
	for _, n := range far() {
		checkIndex(t, v, one(n), is("null"))
		checkIndex(t, v, one("-"+n), is("null"))
		checkSlice(t, v, one(n), one("null"), is("[]"))
		checkSlice(t, v, one("null"), one(n), is("[10, 11, 12, 13]"))
		checkSlice(t, v, one("1"), one(n), is("[11, 12, 13]"))
		checkSlice(t, v, one("-"+n), one("null"), is("[10, 11, 12, 13]"))
		checkSlice(t, v, one("null"), one("-"+n), is("[]"))
		checkSlice(t, v, one("-"+n), one(n), is("[10, 11, 12, 13]"))
		checkSlice(t, v, one(n), one("-"+n), is("[]"))
		checkSlice(t, s, one(n), one("null"), is(`""`))
		checkSlice(t, s, one("-"+n), one(n), is(`"abcd"`))
		checkSlice(t, s, one("2"), one(n), is(`"cd"`))
	}
}

// slices are starts and ends, with what they tell of 10 to 14.
func slicesOfFive() map[string]string {
	return map[string]string{
		"null null": "[10,11,12,13,14]", "0 5": "[10,11,12,13,14]", "0 null": "[10,11,12,13,14]", "null 5": "[10,11,12,13,14]", "-5 9": "[10,11,12,13,14]", "-9 9": "[10,11,12,13,14]",
		"1 3": "[11,12]", "1 null": "[11,12,13,14]", "null 2": "[10,11]", "0 1": "[10]", "4 5": "[14]", "4 100": "[14]",
		"-2 null": "[13,14]", "null -2": "[10,11,12]", "-3 -1": "[12,13]", "-1 null": "[14]", "null -4": "[10]", "-5 -4": "[10]", "-100 -4": "[10]",
		"2 2": "[]", "3 1": "[]", "4 -4": "[]", "-1 -2": "[]", "5 null": "[]", "6 null": "[]", "5 9": "[]", "null 0": "[]", "null -5": "[]", "null -100": "[]", "-1 0": "[]", "3 -9": "[]", "100 1": "[]",
		"0.5 1.5": "[10,11]", "1.9 2": "[11]", "1 1.1": "[11]", "1.1 1.9": "[11]", "1.5 null": "[11,12,13,14]", "null 0.1": "[10]", "null 4.000001": "[10,11,12,13,14]", "1e-1000 1e-1000": "[10]",
		"-0.5 null": "[14]", "-1.5 null": "[13,14]", "null -0.5": "[]", "null -1.5": "[10,11,12,13]", "-2.5 -1.5": "[12,13]", "-1.1 -1": "[13]", "-1e-1000 null": "[14]", "null -1e-1000": "[]", "-4.5 -4.5": "[10]", "null -5.5": "[]",
	}
}

// TestP101Slice: the values of a list, or the characters of a text, by a step that is a slice, and by Slice.
func TestP101Slice(t *testing.T) {
	chars := strings.NewReplacer("[", `"`, "]", `"`, ",", "", "10", "a", "11", "é", "12", "€", "13", "\U0001f600", "14", "z")
	for ends, want := range slicesOfFive() {
		l := read(ends)
		v, s := one("[10,11,12,13,14]"), one(chars.Replace("[10,11,12,13,14]"))
		checkIndex(t, v, sliced(l[0], l[1]), is(want))
		checkSlice(t, v, l[0], l[1], is(want))
		checkIndex(t, s, sliced(l[0], l[1]), is(chars.Replace(want)))
		checkSlice(t, s, l[0], l[1], is(chars.Replace(want)))
		checkIndex(t, one("null"), sliced(l[0], l[1]), is("null"))
		checkSlice(t, one("null"), l[0], l[1], is("null"))
		checkIndex(t, list(), sliced(l[0], l[1]), is("[]"))
		checkIndex(t, text(""), sliced(l[0], l[1]), is(`""`))
	}
	long := text(strings.Repeat("é", api.MaxText/2))
	checkSlice(t, long, one("8191"), one("null"), is(`"é"`))
	checkSlice(t, long, one("-1"), one("null"), is(`"é"`))
	checkSlice(t, long, one("8192"), one("null"), is(`""`))
	whole := list(many(api.MaxItems, list())...)
	checkSlice(t, whole, one("4094"), one("4096"), is("[[],[]]"))
	checkSlice(t, whole, one("-4096"), one("-4095"), is("[[]]"))
}

// TestP101NoSlice: an object is a slice only with start and end, each null or a number, and no other key.
func TestP101NoSlice(t *testing.T) {
	for _, step := range []string{
		`{}`, `{"start":0}`, `{"end":1}`, `{"start":null}`, `{"end":null}`, `{"start":0,"end":1,"step":1}`, `{"a":0,"start":0,"end":1}`, `{"start":0,"end":1,"z":null}`, `{"from":0,"to":1}`, `{"Start":0,"End":1}`, `{"start":0,"ende":1}`, `{"":0,"end":1}`, `{"a":0,"b":1}`, `{"end":0,"starts":1}`,
		`{"start":"0","end":1}`, `{"start":0,"end":"1"}`, `{"start":true,"end":1}`, `{"start":0,"end":false}`, `{"start":[],"end":1}`, `{"start":0,"end":[1]}`, `{"start":{},"end":null}`, `{"start":null,"end":{"start":0,"end":1}}`,
	} {
		for _, v := range read(`null false true 1 "abc" [1,2] {"start":0} {}`) {
			checkIndex(t, v, one(step), no(api.ErrType))
			checkGet(t, v, read(step), no(api.ErrType))
		}
	}
	for _, end := range read(`false true "" "1" [] [0] {} {"start":0,"end":1}`) {
		for _, v := range read(`null 1 "abc" [1,2] {}`) {
			checkSlice(t, v, end, one("1"), no(api.ErrType))
			checkSlice(t, v, one("null"), end, no(api.ErrType))
			checkSlice(t, v, end, end, no(api.ErrType))
		}
	}
	// What is no end of a slice stays so, even where a slice of it would be too deep or too much.
	for _, end := range []api.Value{nested(api.MaxDepth, number(1)), list(many(api.MaxItems, list(number(1), number(2)))...)} {
		checkSlice(t, list(), end, one("1"), no(api.ErrType))
		checkSlice(t, one("null"), one("1"), end, no(api.ErrType))
	}
}

// TestP101Pairs: each kind of value by each kind of step.
func TestP101Pairs(t *testing.T) {
	steps := []string{`null`, `false`, `true`, `0`, `"a"`, `[]`, `[0]`, `["a"]`, `{}`, `{"start":0,"end":1}`}
	for of, row := range map[string]string{
		`null`:     "- - - null null - - - - null",
		`false`:    "- - - - - - - - - -",
		`true`:     "- - - - - - - - - -",
		`0`:        "- - - - - - - - - -",
		`1234`:     "- - - - - - - - - -",
		`"a"`:      `- - - - - - - - - "a"`,
		`"xyz"`:    `- - - - - - - - - "x"`,
		`[5]`:      "- - - 5 - - - - - [5]",
		`[[0],5]`:  "- - - [0] - - - - - [[0]]",
		`{"a":5}`:  "- - - - 5 - - - - -",
		`{"0":[]}`: "- - - - null - - - - -",
	} {
		for i, cell := range strings.Fields(row) {
			want := is(cell)
			if cell == "-" {
				want = no(api.ErrType)
			}
			checkIndex(t, one(of), one(steps[i]), want)
			checkGet(t, one(of), read(steps[i]), want)
		}
	}
}

// TestP101Get: step by step, from none to as many as may be.
func TestP101Get(t *testing.T) {
	v := `{"a":[1,{"b":[[2,3],"xyz"]},null],"c":null}`
	for path, want := range map[string]told{
		`[]`: is(v), `["a"]`: is(`[1,{"b":[[2,3],"xyz"]},null]`), `["a",1,"b",0,1]`: is("3"), `["a",-2,"b",0,-2]`: is("2"),
		`["a",1,"b",1,{"start":1,"end":null}]`: is(`"yz"`), `["a",{"start":1,"end":2},0,"b",0]`: is("[2,3]"),
		`["a",1,"b",1,{"start":0,"end":2},{"start":1,"end":9}]`: is(`"y"`),
		`["d"]`: is("null"), `["d","e",5,{"start":1,"end":2},-1]`: is("null"), `["c","c"]`: is("null"), `["a",2,"x"]`: is("null"), `["a",7,"x",0]`: is("null"),
		`["a","b"]`: no(api.ErrType), `["a",0,0]`: no(api.ErrType), `["a",1,"b",1,0]`: no(api.ErrType), `[0]`: no(api.ErrType), `["a",0,"x","y"]`: no(api.ErrType), `["c",true]`: no(api.ErrType), `["d",null,"x"]`: no(api.ErrType), `["a",1,"b",0,1,{"start":0,"end":1},"x"]`: no(api.ErrType),
	} {
		checkGet(t, one(v), one(path).List, want)
	}
	checkGet(t, one("7"), nil, is("7"))
	deep := nested(api.MaxDepth-1, list())
	checkGet(t, deep, many(api.MaxDepth-1, number(0)), is("[]"))
	checkGet(t, deep, many(api.MaxDepth, number(0)), is("null"))
	checkGet(t, deep, many(api.MaxDepth+1, number(0)), no(api.ErrDepth))
	checkGet(t, one("null"), many(api.MaxDepth, text("a")), is("null"))
	checkGet(t, one("null"), many(api.MaxDepth+1, text("a")), no(api.ErrDepth))
	checkGet(t, one("1"), many(api.MaxDepth+1, text("a")), no(api.ErrDepth))
	checkGet(t, one("1"), many(5000, one("true")), no(api.ErrDepth))
	checkGet(t, one("1"), many(api.MaxDepth, text("a")), no(api.ErrType))
}

// TestP101Errors: value.Check's errors go ahead of all others, in order; a path's steps one by one.
func TestP101Errors(t *testing.T) {
	one := number(1)
	for _, w := range wrongs() {
		if e := value.Check(w.v); e != w.e {
			t.Fatalf("the test's own value is another: error %d, not %d", e, w.e)
		}
		checkIndex(t, w.v, text("a"), no(w.e))
		checkIndex(t, one, w.v, no(w.e))
		checkSlice(t, w.v, one, one, no(w.e))
		checkSlice(t, one, w.v, text("a"), no(w.e))
		checkSlice(t, one, text("a"), w.v, no(w.e))
		checkGet(t, w.v, nil, no(w.e))
		checkGet(t, w.v, many(3, text("a")), no(w.e))
		checkGet(t, one, []api.Value{w.v}, no(w.e))
		checkGet(t, one, []api.Value{text("a"), one, w.v}, no(w.e))
		checkGet(t, api.Value{}, append(many(api.MaxDepth, one), w.v), no(w.e))
		for _, x := range wrongs() {
			checkIndex(t, w.v, x.v, no(w.e))
			checkGet(t, w.v, []api.Value{x.v}, no(w.e))
			checkGet(t, one, []api.Value{w.v, x.v}, no(w.e))
			checkGet(t, one, []api.Value{one, w.v, one, x.v}, no(w.e))
			checkSlice(t, w.v, x.v, one, no(w.e))
			checkSlice(t, w.v, one, x.v, no(w.e))
			checkSlice(t, one, w.v, x.v, no(w.e))
		}
	}
}

// TestP101Words: whatever is looked for in whatever, as the chapter's words say.
func TestP101Words(t *testing.T) {
	d := dice(101)
	met := map[api.Errno]int{}
	for range 30000 {
		v, step, path := d.value(4), d.step(), d.path()
		want, e := wantIndex(model(v), model(step))
		got, gotE := Index(v, step)
		checkTold(t, "Index of "+showAll(v, step), got, gotE, unmodel(want), e)
		met[e]++
		want, e = wantGet(model(v), models(path)...)
		got, gotE = Get(v, path)
		checkTold(t, "Get of "+show(v)+" by "+showPaths(path), got, gotE, unmodel(want), e)
		met[e]++
		from, to := d.end(), d.end()
		want, e = wantIndex(model(v), model(sliced(from, to)))
		got, gotE = Slice(v, from, to)
		checkTold(t, "Slice of "+showAll(v, from, to), got, gotE, unmodel(want), e)
		met[e]++
		if t.Failed() {
			return
		}
	}
	if met[api.OK] < 10000 || met[api.ErrType] < 10000 {
		t.Error("too few of some kind:", met)
	}
}
