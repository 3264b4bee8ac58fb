package path

import (
	"slices"
	"strings"
	"testing"

	"bolter/api"
	"bolter/value"
)

// TestP103DeleteOne: one path.
func TestP103DeleteOne(t *testing.T) {
	v := `{"a":[1,{"b":[2,3]},null,"xyz"],"c":null}`
	for _, c := range []struct {
		v, path string
		want    told
	}{
		{v, `[]`, is("null")}, {"1", `[]`, is("null")}, {"null", `[]`, is("null")},
		{v, `["c"]`, is(`{"a":[1,{"b":[2,3]},null,"xyz"]}`)}, {v, `["a"]`, is(`{"c":null}`)}, {v, `["b"]`, is(v)}, {v, `["aa"]`, is(v)}, {`{"a":1}`, `["a"]`, is("{}")}, {"{}", `["a"]`, is("{}")},
		{v, `["a",0]`, is(`{"a":[{"b":[2,3]},null,"xyz"],"c":null}`)}, {v, `["a",-1]`, is(`{"a":[1,{"b":[2,3]},null],"c":null}`)}, {v, `["a",2]`, is(`{"a":[1,{"b":[2,3]},"xyz"],"c":null}`)}, {v, `["a",4]`, is(v)}, {v, `["a",-5]`, is(v)}, {v, `["a",4096]`, is(v)}, {v, `["a",1e300]`, is(v)}, {v, `["a",-1e300]`, is(v)},
		{v, `["a",0.5]`, is(`{"a":[{"b":[2,3]},null,"xyz"],"c":null}`)}, {v, `["a",-0.5]`, is(`{"a":[1,{"b":[2,3]},null],"c":null}`)}, {v, `["a",-3.5]`, is(`{"a":[{"b":[2,3]},null,"xyz"],"c":null}`)},
		{v, `["a",1,"b",0]`, is(`{"a":[1,{"b":[3]},null,"xyz"],"c":null}`)}, {v, `["a",-3,"b",-1]`, is(`{"a":[1,{"b":[2]},null,"xyz"],"c":null}`)}, {v, `["a",1,"b"]`, is(`{"a":[1,{},null,"xyz"],"c":null}`)}, {v, `["a",1,"d"]`, is(v)},
		{v, `["a",{"start":1,"end":3}]`, is(`{"a":[1,"xyz"],"c":null}`)}, {v, `["a",{"start":null,"end":null}]`, is(`{"a":[],"c":null}`)}, {v, `["a",{"start":-1,"end":null}]`, is(`{"a":[1,{"b":[2,3]},null],"c":null}`)}, {v, `["a",{"start":2,"end":2}]`, is(v)}, {v, `["a",{"start":3,"end":1}]`, is(v)}, {v, `["a",{"start":0.5,"end":0.6}]`, is(`{"a":[{"b":[2,3]},null,"xyz"],"c":null}`)},
		{v, `["a",{"start":1,"end":3},0]`, is(`{"a":[1,null,"xyz"],"c":null}`)}, {v, `["a",{"start":1,"end":3},-1]`, is(`{"a":[1,{"b":[2,3]},"xyz"],"c":null}`)}, {v, `["a",{"start":1,"end":3},2]`, is(v)}, {v, `["a",{"start":1,"end":3},0,"b",1]`, is(`{"a":[1,{"b":[2]},null,"xyz"],"c":null}`)}, {v, `["a",{"start":1,"end":null},{"start":1,"end":null}]`, is(`{"a":[1,{"b":[2,3]}],"c":null}`)},
		// null, at the end of the way and on it.
		{"null", `["a"]`, is("null")}, {"null", `[0]`, is("null")}, {"null", `[{"start":0,"end":1}]`, is("null")}, {"null", `[true]`, is("null")}, {"null", `[null]`, is("null")}, {"null", `[{}]`, is("null")}, {"null", `["a","b",0]`, is("null")},
		{v, `["c","x"]`, is(v)}, {v, `["c",0]`, is(v)}, {v, `["c",{"start":0,"end":1}]`, is(v)}, {v, `["c",[]]`, is(v)}, {v, `["c","x","y"]`, is(v)}, {v, `["c",1,"y",0]`, is(v)}, {v, `["d","x","y"]`, is(v)}, {v, `["a",2,"x","y"]`, is(v)}, {v, `["a",9,"x"]`, is(v)}, {v, `["a",-9,"x","y"]`, is(v)}, {v, `["d",false]`, is(v)}, {v, `["c",true,"y"]`, is(v)}, {v, `["d",[],"y",0]`, is(v)}, {v, `["a",2,null,"y"]`, is(v)},
		{v, `[0]`, no(api.ErrType)}, {v, `[{"start":0,"end":1}]`, no(api.ErrType)}, {v, `[true]`, no(api.ErrType)}, {v, `["a","b"]`, no(api.ErrType)}, {v, `["a",[0]]`, no(api.ErrType)}, {v, `["a",{"start":"0","end":1}]`, no(api.ErrType)}, {v, `["a",{"start":0}]`, no(api.ErrType)}, {v, `["a",1,0]`, no(api.ErrType)}, {v, `["a",0,"x"]`, no(api.ErrType)}, {v, `["a",0,0]`, no(api.ErrType)}, {v, `["a",3,0]`, no(api.ErrType)}, {v, `["a",3,{"start":0,"end":1}]`, no(api.ErrType)}, {v, `["a",3,{"start":0,"end":0}]`, no(api.ErrType)}, {v, `["a",3,{"start":0,"end":1},{"start":0,"end":1}]`, no(api.ErrType)},
		{v, `[0,"a"]`, no(api.ErrType)}, {v, `["a","b","c"]`, no(api.ErrType)}, {v, `["a",0,"x","y"]`, no(api.ErrType)}, {v, `["a",true,"y"]`, no(api.ErrType)}, {"null", `[true,"a"]`, no(api.ErrType)}, {"null", `[[],"a"]`, no(api.ErrType)}, {"true", `["a"]`, no(api.ErrType)}, {"false", `[0]`, no(api.ErrType)}, {"1", `["a","b"]`, no(api.ErrType)},
	} {
		checkDelete(t, one(c.v), paths(c.path), c.want)
	}
}

// TestP103DeletePairs: each kind of value by each kind of last step.
func TestP103DeletePairs(t *testing.T) {
	steps := []string{`null`, `true`, `0`, `"a"`, `[]`, `{}`, `{"start":0,"end":1}`}
	for of, row := range map[string]string{
		`null`: "null null null null null null null", `false`: "- - - - - - -", `true`: "- - - - - - -", `12`: "- - - - - - -", `"ab"`: "- - - - - - -",
		`[]`: "- - [] - - - []", `[5]`: "- - [] - - - []", `{}`: "- - - {} - - -", `{"a":5}`: "- - - {} - - -",
	} {
		for i, cell := range strings.Fields(row) {
			want := is(cell)
			if cell == "-" {
				want = no(api.ErrType)
			}
			checkDelete(t, one(of), [][]api.Value{read(steps[i])}, want)
		}
	}
}

// TestP103DeleteMany: the last path first, in whatever order they come.
func TestP103DeleteMany(t *testing.T) {
	l := `[0,1,2,3,4,5]`
	v := `{"a":[0,1,2],"b":{"c":1,"d":2},"e":null}`
	for _, c := range []struct {
		v, paths string
		want     told
	}{
		{l, ``, is(l)}, {"null", ``, is("null")},
		{l, `[0] [1] [2]`, is("[3,4,5]")}, {l, `[5] [0] [3]`, is("[1,2,4]")}, {l, `[0] [1] [2] [3] [4] [5] [6]`, is("[]")}, {l, `[1.5] [1.25]`, is("[0,3,4,5]")}, {l, `[10] [2]`, is("[0,1,3,4,5]")}, {l, `[10] [9] [2]`, is("[0,1,3,4,5]")},
		// Numbers below 0 are less than all others, so they come last.
		{l, `[-1] [5]`, is("[0,1,2,3]")}, {l, `[-1] [-2]`, is("[0,1,2,4]")}, {l, `[-1] [-6]`, is("[0,1,2,3,4]")}, {l, `[-6] [0]`, is("[1,2,3,4,5]")}, {l, `[-0.5] [0]`, is("[1,2,3,4]")},
		// Slices are greater than numbers; among them the end goes ahead of the start, as keys rise.
		{l, `[5] [{"start":0,"end":1}]`, is("[1,2,3,4,5]")}, {l, `[0] [{"start":0,"end":1}]`, is("[2,3,4,5]")}, {l, `[{"start":0,"end":5}] [{"start":3,"end":4}]`, is("[5]")}, {l, `[{"start":3,"end":null}] [{"start":0,"end":2}]`, is("[2,3,4]")}, {l, `[{"start":3,"end":4}] [{"start":0,"end":4}]`, is("[5]")},
		// The same one twice: what stands there then is left out, too.
		{l, `[0] [0]`, is("[2,3,4,5]")}, {l, `[5] [5]`, is("[0,1,2,3,4]")}, {l, `[-1] [-1] [-1]`, is("[0,1,2]")}, {l, `[{"start":0,"end":2}] [{"start":0,"end":2}]`, is("[4,5]")}, {v, `["a"] ["a"]`, is(`{"b":{"c":1,"d":2},"e":null}`)}, {v, `["b","c"] ["b","c"]`, is(`{"a":[0,1,2],"b":{"d":2},"e":null}`)}, {v, `[] []`, is("null")},
		// One within another: the longer one first.
		{v, `["a"] ["a",0]`, is(`{"b":{"c":1,"d":2},"e":null}`)}, {v, `["b","c"] ["b"]`, is(`{"a":[0,1,2],"e":null}`)}, {v, `["a"] ["a","x"]`, no(api.ErrType)}, {v, `["a","x"] ["a"]`, no(api.ErrType)}, {v, `["a"] ["a",0,"x"]`, no(api.ErrType)},
		{v, `[] ["a"]`, is("null")}, {v, `[] ["x",0]`, is("null")}, {v, `[] [0]`, no(api.ErrType)}, {v, `[0] []`, no(api.ErrType)}, {"1", `[] ["a"]`, no(api.ErrType)}, {"null", `[] ["a"]`, is("null")}, {`[[1,2],[3]]`, `[0] [0,1] [0,0]`, is("[[3]]")}, {`[[1,2],[3]]`, `[0,1] [1]`, is("[[1]]")}, {`[[1,2],[3]]`, `[1,0] [0]`, is("[[]]")},
		{v, `["b","c"] ["b","d"] ["a",2] ["a",0] ["e","x"]`, is(`{"a":[1],"b":{},"e":null}`)}, {v, `["a"] ["b"] ["e"]`, is("{}")}, {v, `["x"] ["b","x"] ["a",3]`, is(v)}, {v, `["a",0] ["b",0]`, no(api.ErrType)}, {v, `["b",0] ["a",0]`, no(api.ErrType)},
	} {
		all := paths(c.paths)
		checkDelete(t, one(c.v), all, c.want)
		slices.Reverse(all)
		checkDelete(t, one(c.v), all, c.want)
	}
}

// TestP103DeleteOrder: steps stand in the order of values, also those that are none, however deep or great they are.
func TestP103DeleteOrder(t *testing.T) {
	great := list(many(api.MaxItems, list(number(1), number(2)))...)
	deep := nested(api.MaxDepth, number(1))
	for _, x := range []api.Value{great, deep, {}, value.Bool(true), list()} {
		checkDelete(t, one(`{"a":null,"b":1}`), [][]api.Value{{text("a"), x}, {text("b")}}, is(`{"a":null}`))
		checkDelete(t, one(`{"a":null,"b":1}`), [][]api.Value{{text("b")}, {text("b"), x}}, no(api.ErrType))
		checkDelete(t, one(`{"a":1}`), [][]api.Value{nil, {text("a"), x, x, x, x, x}}, no(api.ErrType))
	}
	var want [][]api.Value
	for _, step := range []api.Value{{}, value.Bool(false), value.Bool(true), number(-1), number(0), number(2), number(10), text(""), text("a"), text("aa"), text("b"), list(), list(api.Value{}), great, deep, object(nil), sliced(api.Value{}, number(1))} {
		want = append(want, []api.Value{step}, []api.Value{step, {}}, []api.Value{step, great, great, great, great}, []api.Value{step, deep}, []api.Value{step, sliced(number(1), number(2))})
	}
	want = append([][]api.Value{nil}, want...)
	d := dice(103)
	for range 5 {
		given := d.shuffled(want)
		handed := slices.Clone(given)
		if got := inOrder(handed...); !slices.EqualFunc(got, want, samePath) {
			t.Errorf("in order: %s, not %s", showPaths(got...), showPaths(want...))
		}
		if !slices.EqualFunc(handed, given, samePath) {
			t.Error("what is put in order stands in another order itself")
		}
	}
}

// TestP103DeleteDepth: a path of too many steps goes ahead of all else.
func TestP103DeleteDepth(t *testing.T) {
	zeros := func(n int) []api.Value { return many(n, number(0)) }
	deep := nested(api.MaxDepth, number(9))
	got, e := Delete(deep, zeros(api.MaxDepth))
	checkTold(t, "Delete by 64 steps", got, e, nested(api.MaxDepth-1, list()), api.OK)
	got, e = Delete(deep, zeros(api.MaxDepth), zeros(api.MaxDepth-1))
	checkTold(t, "Delete by 64 steps and 63", got, e, nested(api.MaxDepth-2, list()), api.OK)
	checkDelete(t, one("null"), [][]api.Value{zeros(api.MaxDepth)}, is("null"))
	long := zeros(api.MaxDepth + 1)
	vs := []api.Value{deep, {}, number(1), list()}
	for _, w := range wrongs() {
		vs = append(vs, w.v)
		checkDelete(t, number(1), [][]api.Value{{w.v}, long}, no(api.ErrDepth))
		checkDelete(t, number(1), [][]api.Value{append(zeros(api.MaxDepth), w.v)}, no(api.ErrDepth))
	}
	for _, v := range vs {
		checkDelete(t, v, [][]api.Value{long}, no(api.ErrDepth))
		checkDelete(t, v, [][]api.Value{long, nil}, no(api.ErrDepth))
		checkDelete(t, v, [][]api.Value{nil, long}, no(api.ErrDepth))
		checkDelete(t, v, [][]api.Value{{text("a")}, {number(0)}, {api.Value{}}, long}, no(api.ErrDepth))
		checkDelete(t, v, [][]api.Value{many(9999, text("a"))}, no(api.ErrDepth))
	}
}

// TestP103DeleteErrors: value.Check's errors of v, then of all steps, path by path, go ahead of those of types.
func TestP103DeleteErrors(t *testing.T) {
	a, one := text("a"), number(1)
	for _, w := range wrongs() {
		checkDelete(t, w.v, nil, no(w.e))
		checkDelete(t, w.v, [][]api.Value{nil}, no(w.e))
		checkDelete(t, w.v, [][]api.Value{{a}}, no(w.e))
		checkDelete(t, one, [][]api.Value{{w.v}}, no(w.e))
		checkDelete(t, one, [][]api.Value{{a}, nil, {a, one, w.v}, {a}}, no(w.e))
		checkDelete(t, api.Value{}, [][]api.Value{{a, a, w.v}}, no(w.e))
		for _, x := range wrongs() {
			checkDelete(t, w.v, [][]api.Value{{x.v}}, no(w.e))
			checkDelete(t, one, [][]api.Value{{w.v, x.v}}, no(w.e))
			checkDelete(t, one, [][]api.Value{{text("z"), w.v}, {a, x.v}}, no(w.e))
			checkDelete(t, one, [][]api.Value{{number(5), w.v}, {x.v}}, no(w.e))
		}
	}
}

// TestP103DeleteAll: as much as a value may have.
func TestP103DeleteAll(t *testing.T) {
	full := list(many(api.MaxItems, number(7))...)
	whole := object(keys(api.MaxItems), many(api.MaxItems, number(7))...)
	for _, v := range []api.Value{full, whole} {
		every, e := All(v)
		got, gotE := Delete(v, every...)
		checkTold(t, "Delete of all", got, gotE, api.Value{Kind: v.Kind}, e)
		got, gotE = Delete(v, every[1:]...)
		want := api.Value{Kind: v.Kind, List: v.List[:1]}
		if v.Kind == 6 {
			want.Keys = v.Keys[:1]
		}
		checkTold(t, "Delete of all but one", got, gotE, want, e)
	}
	got, e := Delete(list(full, full, full, list(many(4091, number(1))...)), paths(`[3,4090] [2,4095] [0]`)...)
	less := list(full.List[:4095]...)
	checkTold(t, "Delete of what is as great as may be", got, e, list(full, less, list(many(4090, number(1))...)), api.OK)
}

// TestP103DeleteWords: whatever is deleted from whatever, as the chapter's words say.
func TestP103DeleteWords(t *testing.T) {
	d := dice(1031)
	met, changed := map[api.Errno]int{}, 0
	for range 40000 {
		v := d.value(4)
		var l [][]api.Value
		for range d.below(4) {
			l = append(l, pick(&d, [][]api.Value{d.pathIn(v), d.pathIn(v), d.path()}))
			if d.below(10) == 0 {
				l = append(l, pick(&d, l))
			}
		}
		want, e := wantDelete(model(v), modelPaths(l)...)
		got, gotE := Delete(v, l...)
		checkTold(t, "Delete of "+show(v)+" by "+showPaths(l...), got, gotE, unmodel(want), e)
		if t.Failed() {
			return
		}
		met[e]++
		if e == api.OK && !same(got, v) {
			changed++
		}
	}
	if met[api.OK] < 10000 || met[api.ErrType] < 5000 || changed < 3000 {
		t.Error("too few of some kind:", met, changed)
	}
}
