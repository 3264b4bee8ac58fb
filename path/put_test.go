package path

import (
	"slices"
	"strings"
	"testing"

	"bolter/api"
	"bolter/value"
)

// TestP102PutKey: null or an object and a text.
func TestP102PutKey(t *testing.T) {
	checkPut(t, one("null"), text("a"), number(1), is(`{"a":1}`))
	checkPut(t, one("null"), text(""), one("null"), is(`{"":null}`))
	for _, c := range [][3]string{
		{`{}`, `"a"`, `{"a":9}`}, {`{"a":1}`, `"a"`, `{"a":9}`}, {`{"b":1}`, `"a"`, `{"a":9,"b":1}`}, {`{"b":1}`, `"c"`, `{"b":1,"c":9}`}, {`{"b":1}`, `""`, `{"":9,"b":1}`},
		{`{"a":1,"c":[3]}`, `"b"`, `{"a":1,"b":9,"c":[3]}`}, {`{"a":1,"c":[3]}`, `"c"`, `{"a":1,"c":9}`}, {`{"a":1,"c":[3]}`, `"a"`, `{"a":9,"c":[3]}`}, {`{"a":1,"c":[3]}`, `"é"`, `{"a":1,"c":[3],"é":9}`},
		{`{"a":1,"b":2}`, `"aa"`, `{"a":1,"aa":9,"b":2}`}, {`{"\uffff":1}`, `"\ud800\udc00"`, `{"\uffff":1,"\ud800\udc00":9}`}, {`{"start":1}`, `"end"`, `{"end":9,"start":1}`},
	} {
		checkPut(t, one(c[0]), one(c[1]), number(9), is(c[2]))
	}
	most := object(keys(api.MaxItems), many(api.MaxItems, number(7))...)
	got, e := Put(most, text("1002000"), one("[1]"))
	want := slices.Clone(most.List)
	want[2000] = one("[1]")
	checkTold(t, "Put at the key of 4096", got, e, object(most.Keys, want...), api.OK)
	checkPut(t, most, text("a"), number(1), no(api.ErrLong))
	less := object(most.Keys[1:], most.List[1:]...)
	got, e = Put(less, text(most.Keys[0]), number(7))
	checkTold(t, "Put at a key more", got, e, most, api.OK)
}

// TestP102PutPlace: null or a list and a number; null between.
func TestP102PutPlace(t *testing.T) {
	for _, c := range [][3]string{
		{"null", "0", "[9]"}, {"null", "2", "[null,null,9]"}, {"null", "0.9", "[9]"}, {"null", "1.9", "[null,9]"},
		{"[]", "0", "[9]"}, {"[]", "3", "[null,null,null,9]"}, {"[1]", "0", "[9]"}, {"[1]", "1", "[1,9]"}, {"[1]", "2", "[1,null,9]"}, {"[1]", "4", "[1,null,null,null,9]"},
		{"[1,2,3]", "1", "[1,9,3]"}, {"[1,2,3]", "2", "[1,2,9]"}, {"[1,2,3]", "3", "[1,2,3,9]"}, {"[1,2,3]", "1.5", "[1,9,3]"}, {"[1,2,3]", "2.999", "[1,2,9]"},
		{"[1,2,3]", "-1", "[1,2,9]"}, {"[1,2,3]", "-3", "[9,2,3]"}, {"[1,2,3]", "-0.5", "[1,2,9]"}, {"[1,2,3]", "-1.5", "[1,9,3]"}, {"[1,2,3]", "-2.1", "[9,2,3]"},
	} {
		checkPut(t, one(c[0]), one(c[1]), number(9), is(c[2]))
	}
	for _, c := range [][2]string{{"null", "-1"}, {"null", "-0.5"}, {"[]", "-1"}, {"[1]", "-2"}, {"[1]", "-1.5"}, {"[1,2,3]", "-4"}, {"[1,2,3]", "-3.000001"}, {"[1,2,3]", "-100"}} {
		checkPut(t, one(c[0]), one(c[1]), number(9), no(api.ErrRange))
	}
	for _, v := range read("null [] [1,2,3]") {
		for _, n := range append(far(), "4096", "4096.5", "4097", "65536") {
			checkPut(t, v, one(n), number(9), no(api.ErrRange))
			checkPut(t, v, one("-"+n), number(9), no(api.ErrRange))
		}
	}
}

// TestP102PutLast: the last place that a list can have, and the one behind it.
func TestP102PutLast(t *testing.T) {
	want := append(make([]api.Value, api.MaxItems-1), number(9))
	for _, v := range read("null [] [null] [null,null,null]") {
		for _, n := range []string{"4095", "4095.5", "4095.999999"} {
			got, e := Put(v, one(n), number(9))
			checkTold(t, "Put at 4095 of "+show(v), got, e, list(want...), api.OK)
		}
	}
	full := list(many(api.MaxItems, number(7))...)
	for _, n := range []int{0, 2000, 4095, -1, -4096} {
		got, e := Put(full, number(n), text("x"))
		want := slices.Clone(full.List)
		want[(n+api.MaxItems)%api.MaxItems] = text("x")
		checkTold(t, "Put in 4096", got, e, list(want...), api.OK)
	}
	for _, n := range []int{4096, 4097, -4097, 1 << 20} {
		checkPut(t, full, number(n), text("x"), no(api.ErrRange))
	}
}

// TestP102PutSlice: null or a list and a slice; x is a list.
func TestP102PutSlice(t *testing.T) {
	for _, c := range [][5]string{
		{"null", "null", "null", "[8,9]", "[8,9]"}, {"null", "3", "7", "[8]", "[8]"}, {"null", "-3", "-1", "[]", "[]"}, {"[]", "0", "1", "[[8]]", "[[8]]"},
		{"[1,2,3]", "0", "0", "[8,9]", "[8,9,1,2,3]"}, {"[1,2,3]", "1", "1", "[8,9]", "[1,8,9,2,3]"}, {"[1,2,3]", "3", "null", "[8,9]", "[1,2,3,8,9]"}, {"[1,2,3]", "9", "12", "[8]", "[1,2,3,8]"},
		{"[1,2,3]", "0", "1", "[8,9]", "[8,9,2,3]"}, {"[1,2,3]", "1", "2", "[]", "[1,3]"}, {"[1,2,3]", "null", "null", "[]", "[]"}, {"[1,2,3]", "1", "null", "[8]", "[1,8]"}, {"[1,2,3]", "null", "-1", "[8]", "[8,3]"},
		{"[1,2,3]", "-1", "null", "[8,9]", "[1,2,8,9]"}, {"[1,2,3]", "-2", "-1", "[8,[9]]", "[1,8,[9],3]"}, {"[1,2,3]", "2", "1", "[8]", "[1,2,8,3]"}, {"[1,2,3]", "-9", "1", "[8]", "[8,2,3]"},
		{"[1,2,3]", "0.9", "1.1", "[8]", "[8,3]"}, {"[1,2,3]", "-0.5", "null", "[8]", "[1,2,8]"}, {"[1,2,3]", "null", "-0.5", "[8]", "[8,1,2,3]"}, {"[1,2,3]", "1", "2", `[{"a":[1]}]`, `[1,{"a":[1]},3]`},
	} {
		checkPut(t, one(c[0]), sliced(one(c[1]), one(c[2])), one(c[3]), is(c[4]))
	}
	for _, x := range read(`null false true 1 "" "ab" {} {"a":[1]} {"start":0,"end":1}`) {
		for _, v := range read("null [] [1,2,3]") {
			checkPut(t, v, one(`{"start":0,"end":1}`), x, no(api.ErrType))
			checkPut(t, v, one(`{"start":null,"end":null}`), x, no(api.ErrType))
		}
	}
}

// TestP102PutPairs: each kind of value by each kind of step that may not be.
func TestP102PutPairs(t *testing.T) {
	may := map[string]string{`0`: "null []", `"a"`: "null {}", `{"start":0,"end":1}`: "null []"}
	for _, v := range read(`null false true 5 "abc" [] {}`) {
		for _, step := range []string{`null`, `false`, `true`, `0`, `"a"`, `[]`, `[0]`, `{}`, `{"start":0}`, `{"start":0,"end":"1"}`, `{"start":0,"end":1,"x":1}`, `{"start":0,"end":1}`} {
			_, e := Put(v, one(step), one("[1]"))
			want := api.ErrType
			if slices.Contains(strings.Fields(may[step]), show(v)) {
				want = api.OK
			}
			if e != want {
				t.Errorf("Put of %s by %s: error %d, not %d", show(v), step, e, want)
			}
		}
	}
}

// TestP102PutTooMuch: what is put in makes too much: value.Check's error.
func TestP102PutTooMuch(t *testing.T) {
	deep := nested(api.MaxDepth, number(1))
	for _, c := range []struct {
		v, step string
	}{{"null", `"a"`}, {"null", "0"}, {"{}", `"a"`}, {"[1]", "0"}, {"[1]", "-1"}, {`{"a":1}`, `"a"`}} {
		checkPut(t, one(c.v), one(c.step), deep, no(api.ErrDepth))
		got, e := Put(one(c.v), one(c.step), deep.List[0])
		if e != api.OK || value.Deep(got) != api.MaxDepth {
			t.Errorf("Put of a value 63 deep: error %d, %d deep", e, value.Deep(got))
		}
	}
	full := list(many(api.MaxItems, number(7))...)
	front, back := one(`{"start":0,"end":0}`), one(`{"start":-1,"end":null}`)
	checkPut(t, full, front, one("[1]"), no(api.ErrLong))
	checkPut(t, full, back, one("[1,2]"), no(api.ErrLong))
	checkPut(t, one("[1]"), front, full, no(api.ErrLong))
	got, e := Put(full, back, one("[7]"))
	checkTold(t, "Put in a slice of 4096", got, e, full, api.OK)
	// Three lists of 4096 leave room for some more values.
	most := list(full, full, full)
	room := api.MaxSize - value.Size(most)
	checkPut(t, most, number(3), list(many(room, number(1))...), no(api.ErrCount))
	got, e = Put(most, number(3), list(many(room-1, number(1))...))
	if e != api.OK || value.Size(got) != api.MaxSize {
		t.Errorf("Put of as many values as may be: error %d, %d values", e, value.Size(got))
	}
	// What stands between counts, too.
	checkPut(t, most, number(3+room), number(1), no(api.ErrCount))
	got, e = Put(most, number(2+room), number(1))
	if e != api.OK || value.Size(got) != api.MaxSize {
		t.Errorf("Put with null between: error %d, %d values", e, value.Size(got))
	}
}

// TestP102Errors: value.Check's errors go ahead of all others, in order; then ErrDepth.
func TestP102Errors(t *testing.T) {
	one, long := number(1), many(api.MaxDepth+1, number(0))
	for _, w := range wrongs() {
		checkPut(t, w.v, text("a"), one, no(w.e))
		checkPut(t, one, w.v, one, no(w.e))
		checkPut(t, one, text("a"), w.v, no(w.e))
		checkPut(t, api.Value{}, number(-1), w.v, no(w.e))
		checkPut(t, api.Value{}, api.Value{}, w.v, no(w.e))
		checkSet(t, w.v, nil, one, no(w.e))
		checkSet(t, w.v, []api.Value{text("a")}, one, no(w.e))
		checkSet(t, one, []api.Value{w.v}, one, no(w.e))
		checkSet(t, one, []api.Value{text("a"), one, w.v}, one, no(w.e))
		checkSet(t, one, nil, w.v, no(w.e))
		checkSet(t, one, []api.Value{text("a")}, w.v, no(w.e))
		checkSet(t, w.v, long, one, no(w.e))
		checkSet(t, one, append(slices.Clone(long), w.v), one, no(w.e))
		checkSet(t, one, long, w.v, no(w.e))
		for _, x := range wrongs() {
			checkPut(t, w.v, x.v, one, no(w.e))
			checkPut(t, w.v, one, x.v, no(w.e))
			checkPut(t, one, w.v, x.v, no(w.e))
			checkSet(t, w.v, []api.Value{x.v}, one, no(w.e))
			checkSet(t, w.v, nil, x.v, no(w.e))
			checkSet(t, one, []api.Value{w.v, x.v}, one, no(w.e))
			checkSet(t, one, []api.Value{one, w.v, one}, x.v, no(w.e))
		}
	}
}

// TestP102Set: no steps, one step, many steps.
func TestP102Set(t *testing.T) {
	v := `{"a":[1,{"b":[2,3]},null],"c":null}`
	for _, c := range []struct {
		v, path, x string
		want       told
	}{
		{v, `[]`, "9", is("9")}, {"9", `[]`, v, is(v)}, {"null", `[]`, "null", is("null")},
		{v, `["c"]`, "9", is(`{"a":[1,{"b":[2,3]},null],"c":9}`)}, {v, `["d"]`, "9", is(`{"a":[1,{"b":[2,3]},null],"c":null,"d":9}`)},
		{v, `["a",1,"b",0]`, "9", is(`{"a":[1,{"b":[9,3]},null],"c":null}`)}, {v, `["a",-2,"b",-1]`, "[]", is(`{"a":[1,{"b":[2,[]]},null],"c":null}`)}, {v, `["a",1,"z"]`, "9", is(`{"a":[1,{"b":[2,3],"z":9},null],"c":null}`)},
		{v, `["a",2,"x",1]`, "9", is(`{"a":[1,{"b":[2,3]},{"x":[null,9]}],"c":null}`)}, {v, `["c","x"]`, "9", is(`{"a":[1,{"b":[2,3]},null],"c":{"x":9}}`)}, {v, `["a",4,0]`, "9", is(`{"a":[1,{"b":[2,3]},null,null,[9]],"c":null}`)},
		{v, `["a",{"start":0,"end":2}]`, "[8,9]", is(`{"a":[8,9,null],"c":null}`)}, {v, `["a",{"start":1,"end":2},0]`, "[8,9]", is(`{"a":[1,[8,9],null],"c":null}`)}, {v, `["a",{"start":1,"end":3},{"start":1,"end":null}]`, "[8,9]", is(`{"a":[1,{"b":[2,3]},8,9],"c":null}`)}, {v, `["a",{"start":1,"end":2},3]`, "9", is(`{"a":[1,{"b":[2,3]},null,null,9,null],"c":null}`)},
		{"null", `["a","b","c"]`, "9", is(`{"a":{"b":{"c":9}}}`)}, {"null", `[0,1,0]`, "9", is(`[[null,[9]]]`)}, {"null", `[{"start":1,"end":2},"a"]`, "9", no(api.ErrType)}, {"null", `[{"start":1,"end":2},0,"a"]`, "9", is(`[{"a":9}]`)}, {"null", `[{"start":1,"end":2}]`, "[9]", is(`[9]`)},
		{v, `[0]`, "9", no(api.ErrType)}, {v, `["a","b"]`, "9", no(api.ErrType)}, {v, `["a",0,"x"]`, "9", no(api.ErrType)}, {v, `["a",0,"x","y"]`, "9", no(api.ErrType)}, {v, `["c",true]`, "9", no(api.ErrType)}, {v, `["d",null,"x"]`, "9", no(api.ErrType)}, {v, `["a",{"start":0,"end":1}]`, "9", no(api.ErrType)},
		{v, `["a",-4]`, "9", no(api.ErrRange)}, {v, `["a",-4,"x"]`, "9", no(api.ErrRange)}, {v, `["a",4096]`, "9", no(api.ErrRange)}, {v, `["c",-1]`, "9", no(api.ErrRange)}, {"null", `["a",0,-1]`, "9", no(api.ErrRange)},
		{`"abc"`, `[{"start":0,"end":1}]`, `"x"`, no(api.ErrType)}, {`"abc"`, `[{"start":0,"end":1}]`, `[1]`, no(api.ErrType)}, {`"abc"`, `[0]`, `"x"`, no(api.ErrType)}, {"1", `["a"]`, "2", no(api.ErrType)},
		// Of an error behind a step and one at it, that of what is there (Index), then that of the others counts.
		{"[1]", `[-2,true,"x"]`, "9", no(api.ErrType)}, {"[1]", `[0,-1]`, "9", no(api.ErrType)}, {"[1]", `["a",-1]`, "9", no(api.ErrType)}, {"[1]", `[-2,"a"]`, "9", no(api.ErrRange)},
	} {
		checkSet(t, one(c.v), one(c.path).List, one(c.x), c.want)
	}
}

// TestP102SetDeep: paths and values as long and as deep as may be.
func TestP102SetDeep(t *testing.T) {
	zeros := func(n int) []api.Value { return many(n, number(0)) }
	got, e := Set(api.Value{}, zeros(api.MaxDepth), number(9))
	checkTold(t, "Set by 64 steps", got, e, nested(api.MaxDepth, number(9)), api.OK)
	got, e = Set(got, zeros(api.MaxDepth), text("x"))
	checkTold(t, "Set by 64 steps again", got, e, nested(api.MaxDepth, text("x")), api.OK)
	checkSet(t, api.Value{}, zeros(api.MaxDepth), list(), no(api.ErrDepth))
	checkSet(t, got, zeros(api.MaxDepth), list(), no(api.ErrDepth))
	checkSet(t, api.Value{}, zeros(api.MaxDepth+1), number(9), no(api.ErrDepth))
	checkSet(t, text("a"), zeros(api.MaxDepth), number(9), no(api.ErrType))
	checkSet(t, text("a"), zeros(api.MaxDepth+1), number(9), no(api.ErrDepth))
	checkSet(t, text("a"), many(5000, api.Value{}), number(9), no(api.ErrDepth))
	// What the inner Put tells goes ahead of what the outer one would tell.
	deep := nested(api.MaxDepth, number(1))
	checkSet(t, one("[1]"), read(`-2 "a"`), deep, no(api.ErrDepth))
	full := list(many(api.MaxItems, number(7))...)
	checkSet(t, list(full), read(`0 {"start":0,"end":0}`), one("[1]"), no(api.ErrLong))
	checkSet(t, list(full, deep.List[0]), read(`0 {"start":0,"end":0}`), deep, no(api.ErrLong))
	checkSet(t, list(full, full, full), read(`3 {"start":0,"end":0}`), full, no(api.ErrCount))
	checkSet(t, list(full, full, full), read(`2 {"start":0,"end":0}`), full, no(api.ErrLong))
	checkSet(t, list(full, full, full), read(`2 4096`), full, no(api.ErrRange))
}

// TestP102Words: whatever is put and set in whatever, as the chapter's words say.
func TestP102Words(t *testing.T) {
	d := dice(102)
	met := map[api.Errno]int{}
	for range 30000 {
		v, step, x := d.value(3), d.step(), d.value(2)
		want, e := wantPut(model(v), model(step), model(x))
		got, gotE := Put(v, step, x)
		checkTold(t, "Put of "+showAll(v, step, x), got, gotE, unmodel(want), e)
		met[e]++
		for _, path := range [][]api.Value{d.path(), d.pathIn(v)} {
			want, e = wantSet(model(v), model(x), models(path)...)
			got, gotE = Set(v, path, x)
			checkTold(t, "Set of "+show(v)+" by "+showPaths(path)+" to "+show(x), got, gotE, unmodel(want), e)
			met[e]++
		}
		if t.Failed() {
			return
		}
	}
	if met[api.OK] < 10000 || met[api.ErrType] < 10000 || met[api.ErrRange] < 1000 {
		t.Error("too few of some kind:", met)
	}
}
