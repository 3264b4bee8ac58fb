package kinds

import (
	"runtime"
	"testing"

	"bolter/api"
)

// TestP122Flatten: down to a depth; what stands in objects stays.
func TestP122Flatten(t *testing.T) {
	flatten(0).table(t, [][2]string{{"[]", "[]"}, {"[1,[2]]", "[1,[2]]"}, {"[[]]", "[[]]"}})
	flatten(1).table(t, [][2]string{{"[]", "[]"}, {"[1]", "[1]"}, {"[1,[2]]", "[1,2]"}, {"[[]]", "[]"}, {"[[],[]]", "[]"}, {"[[[]]]", "[[]]"}, {"[[1,[2,[3]]],4]", "[1,[2,[3]],4]"}, {`[{"a":[1,[2]]},["b",null],{}]`, `[{"a":[1,[2]]},"b",null,{}]`}, {`[[{"a":[1]}]]`, `[{"a":[1]}]`}, {`["ab",false]`, `["ab",false]`}})
	flatten(2).table(t, [][2]string{{"[[[1]]]", "[1]"}, {"[[[[1]]]]", "[[1]]"}, {"[1,[2,[3,[4,[5]]]],6]", "[1,2,3,[4,[5]],6]"}, {"[[[[]]],[[]],[]]", "[[]]"}})
	flatten(100).table(t, [][2]string{{"[[[1]]]", "[1]"}, {"[1,[2,[3,[4,[5]]]],6]", "[1,2,3,4,5,6]"}, {"[[[[]]],[[]],[]]", "[]"}, {`[[[{"a":[[1]]}]]]`, `[{"a":[[1]]}]`}})
	for _, depth := range []int{0, 1, 2, 100, 1<<63 - 1} {
		flatten(depth).types(t, ofKinds(5))
	}
}

// TestP122FlattenDepths: each depth of what lies as deep as it may, and depths that no list lies at.
func TestP122FlattenDepths(t *testing.T) {
	v := nested(api.MaxDepth, num(1))
	for depth := range api.MaxDepth {
		flatten(depth).check(t, as(nested(api.MaxDepth-depth, num(1))), v)
	}
	for _, depth := range []int{api.MaxDepth, 1000, 1 << 32, 1<<63 - 1} {
		flatten(depth).check(t, is("[1]"), v)
	}
}

// TestP122FlattenErrors: what is no list goes ahead of a depth below 0; what is made may have too many values in one list.
func TestP122FlattenErrors(t *testing.T) {
	for _, depth := range []int{-1, -2, -1 << 32, -1 << 63} {
		for _, v := range kinds() {
			want := no(api.ErrType)
			if v.Kind == 5 {
				want = no(api.ErrRange)
			}
			flatten(depth).check(t, want, v)
		}
	}
	half := list(many(api.MaxItems/2, num(1))...)
	full := many(api.MaxItems, num(1))
	flatten(1).check(t, as(list(full...)), list(half, half))
	flatten(1).check(t, no(api.ErrLong), list(half, num(2), half))
	flatten(0).check(t, as(list(half, num(2), half)), list(half, num(2), half))
	flatten(2).check(t, no(api.ErrLong), list(list(half, list(full...)), half))
	flatten(1).check(t, as(list(half, list(full...), num(1))), list(list(half, list(full...)), num(1)))
	flatten(1).check(t, is("[]"), list(many(api.MaxItems, list())...))
	flatten(2).check(t, as(list(full...)), list(many(api.MaxItems, nested(2, num(1)))...))
}

// TestP122Reverse: the values of a list, the characters of a text.
func TestP122Reverse(t *testing.T) {
	reverse().table(t, [][2]string{
		{"null", "[]"}, {"[]", "[]"}, {"[1]", "[1]"}, {"[1,[2,3],null]", "[null,[2,3],1]"}, {`[{"a":1,"b":2},"ab"]`, `["ab",{"a":1,"b":2}]`}, {"[1,2,3,4]", "[4,3,2,1]"},
		{`""`, `""`}, {`"a"`, `"a"`}, {`"abc"`, `"cba"`}, {`"é€\ud83d\ude00z"`, `"z\ud83d\ude00€é"`}, {`"a\u0301b"`, `"b\u0301a"`}, {`"\u0000\ufffd\r\n"`, `"\n\r\ufffd\u0000"`},
	})
	reverse().check(t, as(text("b"+long("é", api.MaxText/2-1).Text+"a")), text("a"+long("é", api.MaxText/2-1).Text+"b"))
	reverse().check(t, as(list(append(many(api.MaxItems-1, num(2)), num(1))...)), list(append([]api.Value{num(1)}, many(api.MaxItems-1, num(2))...)...))
	reverse().types(t, ofKinds(0, 4, 5))
}

// TestP122Transpose: lists of unlike lengths, null where one has nothing.
func TestP122Transpose(t *testing.T) {
	transpose().table(t, [][2]string{
		{"[]", "[]"}, {"[[]]", "[]"}, {"[[],[],[]]", "[]"}, {"[[1]]", "[[1]]"}, {"[[1,2,3]]", "[[1],[2],[3]]"}, {"[[1],[2],[3]]", "[[1,2,3]]"}, {"[[1,2],[3,4]]", "[[1,3],[2,4]]"}, {"[[1],[2,3]]", "[[1,2],[null,3]]"}, {"[[1,2],[3]]", "[[1,3],[2,null]]"}, {"[[],[1,2],[]]", "[[null,1,null],[null,2,null]]"}, {"[[null]]", "[[null]]"}, {`[[[1,[2]],{"a":1}],["b"]]`, `[[[1,[2]],"b"],[{"a":1},null]]`},
	})
	for _, row := range []string{"[1]", "[[1],2]", "[null]", "[[1],null]", `[[1],{"a":1}]`, `["ab"]`, "[{}]", "[[],[1],false]", `[[],"",[]]`} {
		transpose().check(t, no(api.ErrType), one(row))
	}
	transpose().types(t, func(l ...api.Value) bool { return same(l[0], list()) })
}

// TestP122TransposeGreat: the nulls count, too; they are not even made, if they are too many.
func TestP122TransposeGreat(t *testing.T) {
	square := func(rows, columns int) api.Value {
		return list(many(rows, list(many(columns, num(1))...))...)
	}
	transpose().check(t, as(square(129, 126)), square(126, 129))
	transpose().check(t, no(api.ErrCount), square(127, 128))
	transpose().check(t, as(square(1, api.MaxItems)), square(api.MaxItems, 1))
	transpose().check(t, as(square(api.MaxItems, 1)), square(1, api.MaxItems))
	// What is told has room for so many values more: the list, one for each place, two at each.
	left := api.MaxSize - 1 - 3*api.MaxItems
	two := func(more int) api.Value {
		row := many(api.MaxItems, num(1))
		return list(list(row...), list(append(row[1:len(row):len(row)], list(many(more, num(2))...))...))
	}
	all := list(many(api.MaxItems-1, list(num(1), num(1)))...)
	transpose().check(t, as(list(append(all.List, list(num(1), list(many(left, num(2))...)))...)), two(left))
	transpose().check(t, no(api.ErrCount), two(left+1))
	transpose().check(t, as(nested(api.MaxDepth, num(1))), nested(api.MaxDepth, num(1)))
	var was, now runtime.MemStats
	runtime.ReadMemStats(&was)
	transpose().check(t, no(api.ErrCount), list(append(many(api.MaxItems-1, list()), list(many(api.MaxItems, num(1))...))...))
	runtime.ReadMemStats(&now)
	if took := now.TotalAlloc - was.TotalAlloc; took > 1<<28 {
		t.Error("octets of memory for what is not told:", took)
	}
}

// TestP122Words: whatever is put another way, as the chapter's words say.
func TestP122Words(t *testing.T) {
	d := dice(1221)
	for _, c := range []call{entries(), unentries(), flatten(-1), flatten(0), flatten(1), flatten(2), flatten(100), reverse(), transpose()} {
		met := map[api.Errno]int{}
		for range 10000 {
			l := d.some(1)
			want := want(c.name, l...)
			c.check(t, want, l...)
			met[want.e]++
		}
		if met[api.ErrType] < 1000 || met[api.OK]+met[api.ErrRange] < 500 {
			t.Errorf("%s: too few of some kind: %v", c.name, met)
		}
	}
}
