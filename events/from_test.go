package events

import (
	"slices"
	"strings"
	"testing"

	"bolter/api"
)

// TestP151From: the values that events make, of none, of one value, of several.
func TestP151From(t *testing.T) {
	from().table(t, [][2]string{
		{``, ``},
		{`[[0],1] [[0]]`, `[1]`},
		{`[[],1]`, `1`},
		{`[[],null] [[],[]] [[],{}] [[],"a"] [[],false]`, `null [] {} "a" false`},
		{`[["a"],1] [["b"],2] [["b"]]`, `{"a":1,"b":2}`},
		{`[["b"],1] [["a"],2] [["a"]]`, `{"a":2,"b":1}`},
		{`[[0],1] [[0]] [["a"],2] [["a"]] [[],3]`, `[1] {"a":2} 3`},
		{`[[0,"a"],1] [[0,"a"]] [[1],[]] [[1]]`, `[{"a":1},[]]`},
		{`[["a",0,"b"],1] [["a",0,"b"]] [["a",0]] [["a"]]`, `{"a":[{"b":1}]}`},
		{`[[0,0],[]] [[0,0]] [[0]]`, `[[[]]]`},
		{`[[0],{}] [[0]]`, `[{}]`},
	})
}

// TestP151FromEnds: an end of one step ends what is under way, wherever it leads; one of more steps does nothing.
func TestP151FromEnds(t *testing.T) {
	from().table(t, [][2]string{
		{`[[0]]`, `null`},
		{`[["a"]] [[-1]] [[1e300]] [[0]]`, `null null null null`},
		{`[[0],1] [["a"]]`, `[1]`},
		{`[[0],1] [[7]] [[0]]`, `[1] null`},
		{`[[0,0]] [["a","b","c"]]`, ``},
		{`[[0],1] [[0,0]] [["a",-5,1e300]] [[0]]`, `[1]`},
		{`[[0,0],1] [[0,0]] [[1,0],2] [[1,0]] [[1]]`, `[[1],[2]]`},
		{`[[0,0],1] [[0]]`, `[[1]]`},
	})
}

// TestP151FromUnderWay: what is under way in the end is left out; a leaf of no steps leaves it as it is.
func TestP151FromUnderWay(t *testing.T) {
	from().table(t, [][2]string{
		{`[[0],1]`, ``},
		{`[["a","b"],1] [["a","b"]]`, ``},
		{`[[0],1] [[0]] [[0],2]`, `[1]`},
		{`[[0],1] [[],"x"]`, `"x"`},
		{`[[0],1] [[],"x"] [[1],2] [[],[]] [[1]] [[],3]`, `"x" [] [1,2] 3`},
		{`[["a"],1] [["a"]] [["b"],2] [["b"]]`, `{"a":1} {"b":2}`},
		{`[[1],1] [[1]] [[0],2] [[0]]`, `[null,1] [2]`},
	})
}

// TestP151FromSet: leaves are set as path.Set does it: what is there is replaced, null stands between, places count from the end, and are made whole downward.
func TestP151FromSet(t *testing.T) {
	from().table(t, [][2]string{
		{`[[0],1] [[0],2] [[0]]`, `[2]`},
		{`[["a"],1] [["a"],[]] [["a"]]`, `{"a":[]}`},
		{`[["a","b"],1] [["a"],2] [["a"]]`, `{"a":2}`},
		{`[["a"],null] [["a",1],2] [["a"]]`, `{"a":[null,2]}`},
		{`[["a"],[]] [["a",0],2] [["a"]]`, `{"a":[2]}`},
		{`[["a"],{}] [["a","b"],2] [["a","a"],1] [["a"]]`, `{"a":{"a":1,"b":2}}`},
		{`[[2],1] [[0],0] [[0]]`, `[0,null,1]`},
		{`[[3,1],1] [[2,"a"],0] [[0]]`, `[null,null,{"a":0},[null,1]]`},
		{`[[0],1] [[1],2] [[-1],3] [[-2],4] [[0]]`, `[4,3]`},
		{`[[1.5],1] [[0.5],2] [[0]]`, `[2,1]`},
		{`[[1],1] [[-0.5],2] [[-1.5],3] [[0]]`, `[3,2]`},
		{`[[1e-9],1] [[1e1],2] [[-1e-9],3] [[0]]`, `[1,null,null,null,null,null,null,null,null,null,3]`},
		{`[["0"],1] [["-1"],2] [["0"]]`, `{"-1":2,"0":1}`},
		{`[["é"],1] [["😀"],2] [["z"],3] [[""],4] [["é"]]`, `{"":4,"z":3,"é":1,"😀":2}`},
		{`[["a",0,"b"],1] [["a",0,"c"],2] [["a",1],3] [["d"],4] [["a",0,"b"],{}] [["d"]]`, `{"a":[{"b":{},"c":2},3],"d":4}`},
	})
	from().check(t, as(list(append(many(4095, api.Value{}), num(1))...)), read(`[[4095],1] [[0]]`)...)
	from().check(t, as(list(append(many(4095, api.Value{}), num(1))...)), read(`[[4095.999],0] [[-1],1] [[0]]`)...)
}

// TestP151FromType: a step into what has no such parts is ErrType.
func TestP151FromType(t *testing.T) {
	from().fails(t, api.ErrType,
		`[["a"],1] [[0],2]`,
		`[[0],1] [["a"],2]`,
		`[["a"],1] [["a","b"],2]`,
		`[["a"],1] [["a",0],2]`,
		`[["a"],"x"] [["a",0],2]`,
		`[["a"],"x"] [["a","b"],2]`,
		`[["a"],true] [["a","b"],2]`,
		`[["a"],false] [["a",0],2]`,
		`[["a"],[]] [["a","b"],2]`,
		`[["a"],{}] [["a",0],2]`,
		`[[0,"a"],1] [[0,0],2]`,
		`[[0],1] [[0]] [[0],1] [["a"],1] [["a"]]`,
		// The first error counts: of two steps, and of two events.
		`[["a"],1] [["a",-1],2]`,
		`[["a"],1] [[-1],2]`,
		`[["a"],1] [["a","b",4096],2] [[-1],1]`,
		`[["a",0],1] [[0,-5],2]`)
	from().table(t, [][2]string{
		{`[["a"],1] [["a"]] [[0],2] [[0]]`, `{"a":1} [2]`},
	})
}

// TestP151FromRange: a place that is still below 0 from the end, or not below MaxItems, is ErrRange.
func TestP151FromRange(t *testing.T) {
	from().fails(t, api.ErrRange,
		`[[-1],1]`, `[[-0.5],1]`, `[[4096],1]`, `[[1e300],1]`, `[[-1e300],1]`, `[[1e1000],1]`, `[[18446744073709551616],1]`, `[[-18446744073709551616],1]`, `[[9007199254740993],1]`,
		`[[0],1] [[-2],1]`, `[[0],1] [[-1.5],1]`, `[[0],[]] [[0,-1],1]`, `[["a",-1],1]`, `[["a",4096],1]`, `[["a"],null] [["a",-1],1]`,
		`[[-1,0],1]`, `[[0,-1,"a"],1]`, `[[-1,"a"],1]`,
		`[[0],1] [[0]] [[-1],1]`,
		// The first error counts.
		`[[-1],1] [["a"],1]`,
		`[[0],1] [[-2],1] [["a"],1]`)
}

// TestP151FromDepth: a leaf by more than MaxDepth steps is ErrDepth, ahead of all else; so is an empty list by just so many, behind what is told on the way.
func TestP151FromDepth(t *testing.T) {
	most := api.MaxDepth
	end := list(list(num(0)))
	by := func(n int, leaf string) api.Value { return list(steps(n, num(0)), one(leaf)) }
	from().check(t, as(nested(most, num(1))), by(most, "1"), end)
	from().check(t, as(nested(most-1, list())), by(most-1, "[]"), end)
	from().check(t, as(nested(most-1, object(nil))), by(most-1, "{}"), end)
	from().check(t, no(api.ErrDepth), by(most, "[]"), end)
	from().check(t, no(api.ErrDepth), by(most, "{}"), end)
	from().check(t, no(api.ErrDepth), by(most+1, "1"), end)
	from().check(t, no(api.ErrDepth), by(api.MaxItems, "1"), end)
	from().check(t, no(api.ErrDepth), one(`[["a"],1]`), by(most+1, "1"))
	from().check(t, no(api.ErrDepth), by(1, "null"), by(most, "1"), by(most, "[]"))
	from().check(t, no(api.ErrDepth), list(steps(most+1, num(-1)), num(1)))
	from().check(t, no(api.ErrRange), list(steps(most, num(-1)), list()))
	from().check(t, no(api.ErrType), one(`[["a"],1]`), by(most, "[]"))
	// An end may have any number of steps.
	from().check(t, as(list(num(1))), by(1, "1"), list(steps(most+1, num(0))), list(steps(api.MaxItems, text("a"))), end)
}

// TestP151FromCount: more than MaxSize values under way are ErrCount; what is told on the way there goes ahead.
func TestP151FromCount(t *testing.T) {
	full := `[[4095],1] [[0,4095],1] [[1,4095],1]`
	// These are 1, 4096 in it, and 2 times 4096 in these.
	want := list(append(many(2, list(append(many(4095, api.Value{}), num(1))...)), append(many(4093, api.Value{}), num(1))...)...)
	from().check(t, as(want), read(full+`[[0]]`)...)
	want.List[2] = list(append(many(4094, api.Value{}), num(1))...)
	from().check(t, as(want), read(full+`[[2,4094],1] [[0]]`)...)
	from().fails(t, api.ErrCount,
		full+`[[2,4095],1]`,
		full+`[[2,4094],1] [[3,0],1]`,
		full+`[[2,4094],1] [[3,"a"],1]`,
		full+`[[2,4094],[]] [[2,4094,0],1]`,
		full+`[[2,4094],1] [[0,4095],[]] [[0,4095,0],1]`,
		`[[4095,4095,4095,4095],1]`,
		`[["a",4095,4095,4095,4095],1]`,
		`[[-1,4095,4095,4095,4095],1]`,
		`[[0],1] [[0]] [[4095,4095,4095,4095],1] [[0]]`)
	from().fails(t, api.ErrRange, `[[-1,4095,4095,4095,4094],1]`, `[[4096,4095,4095,4094],1]`)
	// What is both too deep and too many as a whole is ErrDepth; what is too many within it already is ErrCount.
	deep := list(steps(api.MaxDepth, num(0)), list())
	for row, e := range map[string]api.Errno{full + `[[2,4094],1]`: api.ErrDepth, `[[0,4095],1] [[0,1,4095],1] [[0,2,4095],1] [[0,3,4094],1]`: api.ErrCount} {
		from().check(t, no(e), append(read(row), deep)...)
		from().check(t, wantFrom(append(read(row), deep)), append(read(row), deep)...)
		from().check(t, no(api.ErrCount), append(read(row), list(deep.List[0], num(1)))...)
	}
	// What is replaced counts no more, and what was told neither.
	want.List[0], want.List[2] = num(7), list(append(many(4094, api.Value{}), num(1), num(1))...)
	from().check(t, as(want), read(full+`[[2,4094],1] [[0],7] [[2,4095],1] [[0]]`)...)
	from().check(t, as(want, want), slices.Repeat(read(full+`[[2,4094],1] [[0],7] [[2,4095],1] [[0]]`), 2)...)
}

// TestP151FromLong: an object of more than MaxItems keys is ErrLong.
func TestP151FromLong(t *testing.T) {
	var l []api.Value
	for _, key := range keys(api.MaxItems) {
		l = append(l, list(list(text(key)), num(1)))
	}
	end := list(list(text("a")))
	from().check(t, as(keyed(many(api.MaxItems, num(1))...)), append(l, end)...)
	slices.Reverse(l)
	from().check(t, as(keyed(many(api.MaxItems, num(1))...)), append(l, l[0], end)...)
	from().check(t, no(api.ErrLong), append(l, list(list(text("a")), num(1)))...)
	from().check(t, no(api.ErrLong), append(l, list(list(text("a"), num(0)), num(1)))...)
	from().check(t, no(api.ErrLong), append(l, list(list(text("a"), num(4095), num(4095)), num(1)))...)
	from().check(t, no(api.ErrCount), append(l, list(list(text("a"), num(4095), num(4095), num(4095)), num(1)))...)
	from().check(t, no(api.ErrRange), append(l, list(list(text("a"), num(-1)), num(1)))...)
}

// noEvents are JSON texts of values that are no events, each for one cause.
func noEvents() []string {
	return []string{
		`null`, `true`, `1`, `"a"`, `"[]"`, `{}`, `{"a":[0],"b":1}`, `{"a":[0]}`,
		`[]`, `[[0],1,2]`, `[[0],1,null]`, `[[],1,2]`, `[[0],[],[]]`, `[[0],1,[],{}]`,
		`[null]`, `[0]`, `["a"]`, `[{"a":0}]`, `[{}]`, `[null,1]`, `[0,1]`, `["a",1]`, `[{},1]`, `[{"a":0},1]`, `[true,1]`,
		`[[]]`,
		`[[0],[1]]`, `[[0],{"a":1}]`, `[[],[1]]`, `[[],{"a":1}]`, `[[0],[[]]]`, `[[0],[null]]`,
		`[[null],1]`, `[[true]]`, `[[false],1]`, `[[[]],1]`, `[[[0]],1]`, `[[{}],1]`, `[[0,null],1]`, `[["a",[]]]`, `[[{"end":1,"start":0}],1]`, `[[{"end":null,"start":null}]]`, `[[0,{"end":1,"start":0},"a"],1]`,
	}
}

// checkNoEvents holds that a call of events tells ErrType of what is none, wherever it stands.
func (c call) checkNoEvents(t *testing.T) {
	t.Helper()
	for _, s := range noEvents() {
		c.fails(t, api.ErrType, s, s+` [[0],1]`, `[[0],1] [[0]] `+s, `[["a"],1] [[0],2] `+s, `[[-1],1] `+s, s+` `+s)
	}
	for _, w := range wrongs() {
		c.check(t, no(w.e), w.v)
		c.check(t, no(w.e), one(`[[0],1]`), w.v)
		c.check(t, no(w.e), one(`[]`), w.v, api.Value{Kind: 9}, one(`{}`))
		c.check(t, no(api.ErrKind), one(`[]`), api.Value{Kind: 9}, w.v)
		c.check(t, no(w.e), one(`[[-1],1]`), one(`[["a"],1]`), w.v)
	}
	within := list(api.Value{})
	within.List[0] = within
	c.check(t, no(api.ErrDepth), one(`[]`), within)
}

// TestP151FromNone: what may not be is value.Check's error of the first, what is no event ErrType; both ahead of what is told on the way.
func TestP151FromNone(t *testing.T) {
	from().checkNoEvents(t)
}

// TestP151FromDice: events of all kinds make what path.Set makes of them, leaf by leaf.
func TestP151FromDice(t *testing.T) {
	d := dice(1512)
	made, errors := 0, map[api.Errno]int{}
	for range 10000 {
		l := d.events()
		if d.below(4) == 0 {
			l = d.negative()
		}
		want := wantFrom(l)
		from().check(t, want, l...)
		made += len(want.l)
		errors[want.e]++
		if t.Failed() {
			return
		}
	}
	if made < 5000 || errors[api.ErrType] < 500 || errors[api.ErrRange] < 500 {
		t.Error("too few of a kind:", made, errors)
	}
}

// TestP151FromGreat: what goes near the limits makes what path.Set makes of it.
func TestP151FromGreat(t *testing.T) {
	d := dice(1513)
	errors := map[api.Errno]int{}
	for range 400 {
		var l []api.Value
		for range d.below(5) + 1 {
			path := list()
			for range d.below(5) + 1 {
				path.List = append(path.List, pick(&d, read(`0 1 2 -1 "a" "b" 4095 4095 4094 4000 3000 -4096`)))
			}
			if d.below(6) == 0 {
				path.List = append(path.List, many(api.MaxDepth-len(path.List)+d.below(2), num(0))...)
			}
			l = append(l, list(path, d.leaf()))
		}
		l = append(l, one(`[[0]]`))
		want := wantFrom(l)
		from().check(t, want, l...)
		errors[want.e]++
	}
	for _, e := range []api.Errno{api.OK, api.ErrType, api.ErrRange, api.ErrDepth, api.ErrCount} {
		if errors[e] < 5 {
			t.Error("too few of a kind:", errors)
		}
	}
}

// TestP151FromMany: there may be any number of events, and of values that they make.
func TestP151FromMany(t *testing.T) {
	n := 3 * api.MaxItems
	from().check(t, as(many(n, text("x"))...), slices.Repeat(read(`[[],"x"]`), n)...)
	from().check(t, as(many(n, list(num(1)))...), slices.Repeat(read(`[[0],1] [[0]]`), n)...)
	from().check(t, as(list(num(1))), append(slices.Repeat(read(`[[0],1] [[0,0]]`), n), one(`[[0]]`))...)
	// Great texts, many of which are under way.
	long := text(strings.Repeat("a", api.MaxText))
	var l []api.Value
	for i := range 2000 {
		l = append(l, list(list(num(i)), long))
	}
	from().check(t, as(list(many(2000, long)...)), append(l, one(`[[0]]`))...)
}
