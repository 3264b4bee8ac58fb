package kinds

import (
	"testing"

	"bolter/api"
)

// TestP121ContainsObjects: each key of b, with a value that contains its, some levels deep.
func TestP121ContainsObjects(t *testing.T) {
	within().truths(t, [][2]string{
		{"{}", "{}"}, {`{"a":1}`, "{}"}, {`{"a":1}`, `{"a":1.0}`}, {`{"a":1,"b":2,"c":3}`, `{"c":3,"a":1}`}, {`{"a":null}`, `{"a":null}`}, {`{"a":"xyz"}`, `{"a":"y"}`}, {`{"a":[1,2,3]}`, `{"a":[3,1]}`},
		{`{"a":{"b":{"c":[{"d":"deep","e":1}]}},"f":0}`, `{"a":{"b":{"c":[{"d":"ee"}]}}}`}, {`{"a":{"b":1}}`, `{"a":{}}`}, {`{"":""}`, `{"":""}`},
	}, [][2]string{
		{"{}", `{"a":1}`}, {"{}", `{"a":null}`}, {`{"b":1}`, `{"a":1}`}, {`{"a":1}`, `{"a":2}`}, {`{"a":1}`, `{"a":1,"b":1}`}, {`{"a":1,"c":1}`, `{"b":1}`}, {`{"a":"y"}`, `{"a":"xyz"}`}, {`{"a":[1]}`, `{"a":[1,2]}`}, {`{"a":{}}`, `{"a":{"b":1}}`},
		{`{"a":{"b":{"c":1}}}`, `{"a":{"b":{"c":2}}}`}, {`{"a":{"b":1}}`, `{"b":1}`}, {`{"a":true}`, `{"a":false}`}, {`{"a":1,"b":2}`, `{"a":2,"b":1}`}, {`{"a":1,"b":2,"c":3}`, `{"a":1,"b":2,"c":4}`},
	})
}

// TestP121ContainsLists: for each value of b any one of a will do, the same one for several, too.
func TestP121ContainsLists(t *testing.T) {
	within().truths(t, [][2]string{
		{"[]", "[]"}, {"[1]", "[]"}, {"[1,2,3]", "[2]"}, {"[1,2,3]", "[3,2,1]"}, {"[1]", "[1,1.0,1]"}, {`["abc"]`, `["a","bc","","abc"]`}, {`["ab","bc","b"]`, `["b"]`}, {`["ax","bx","cx"]`, `["c"]`}, {"[[1,2],[3]]", "[[3],[2]]"}, {"[[1]]", "[[]]"}, {`[{"a":1,"b":2}]`, `[{"a":1},{"b":2}]`}, {`[{"a":1},{"a":2}]`, `[{"a":2}]`}, {"[null,false,true]", "[true,null,false]"}, {`[1,"1",[1],{"1":1},null,true]`, `[true,null,{},[],"","1",1]`}, {"[[[[1,2]]]]", "[[[[2]]]]"},
	}, [][2]string{
		{"[]", "[1]"}, {"[]", "[[]]"}, {"[]", "[null]"}, {"[1,2,3]", "[4]"}, {"[1,2,3]", "[1,4]"}, {"[1,2,3]", "[4,1]"}, {`["a","b"]`, `["ab"]`}, {"[[1],[2]]", "[[1,2]]"}, {"[[]]", "[[1]]"}, {`[{"a":1},{"b":2}]`, `[{"a":1,"b":2}]`}, {"[true]", "[false]"}, {"[false]", "[null]"}, {"[[1]]", "[1]"}, {"[1]", "[[1]]"},
	})
}

// TestP121ContainsTexts: an empty one stands in each; characters of octets that others have, too.
func TestP121ContainsTexts(t *testing.T) {
	within().truths(t, [][2]string{
		{`""`, `""`}, {`"a"`, `""`}, {`"abc"`, `"abc"`}, {`"abc"`, `"a"`}, {`"abc"`, `"c"`}, {`"abc"`, `"bc"`}, {`"aab"`, `"ab"`}, {`"née"`, `"é"`}, {`"a\u0000b"`, `"\u0000b"`}, {`"ababac"`, `"abac"`},
	}, [][2]string{
		{`""`, `"a"`}, {`"abc"`, `"ac"`}, {`"abc"`, `"abcd"`}, {`"abc"`, `"B"`}, {`"é"`, `"è"`}, {`"é"`, `"e"`}, {`"a b"`, `"ab"`},
	})
	within().check(t, is("true"), long("a", api.MaxText), long("a", api.MaxText))
	within().check(t, is("false"), long("a", api.MaxText), text(long("a", api.MaxText-1).Text+"b"))
}

// TestP121ContainsOthers: numbers, nulls and truths, which are one kind, are the same or not.
func TestP121ContainsOthers(t *testing.T) {
	within().truths(t, [][2]string{
		{"null", "null"}, {"false", "false"}, {"true", "true"}, {"1", "1"}, {"1.50", "1.5"}, {"1e2", "100"}, {"-0", "0"}, {"-1e1000", "-1e1000"}, {"123456789012345678901234567890", "123456789012345678901234567890.0"},
	}, [][2]string{
		{"false", "true"}, {"true", "false"}, {"1", "2"}, {"2", "1"}, {"12", "1"}, {"1", "-1"}, {"1", "10"}, {"10", "1"}, {"0", "1"}, {"1e1000", "1e999"}, {"1", "4294967297"}, {"123456789012345678901234567890", "123456789012345678901234567891"},
	})
}

// TestP121ContainsUnlike: unlike kinds are an error at the top; within lists and objects neither contains the other.
func TestP121ContainsUnlike(t *testing.T) {
	group := []int{0, 1, 1, 2, 3, 4, 5}
	within().types(t, func(l ...api.Value) bool { return group[l[0].Kind] == group[l[1].Kind] })
	for _, a := range kinds() {
		for _, b := range kinds() {
			if a.Kind == b.Kind {
				continue
			}
			within().check(t, is("false"), list(a), list(b))
			within().check(t, is("false"), list(a, a), list(a, b))
			within().check(t, is("true"), list(b, a), list(a))
			within().check(t, is("true"), list(a, b), list(a))
			within().check(t, is("false"), object([]string{"x"}, a), object([]string{"x"}, b))
			within().check(t, is("false"), object([]string{"x", "y"}, a, b), object([]string{"x", "y"}, a, a))
			within().check(t, is("false"), list(object([]string{"x"}, a)), list(object([]string{"x"}, b)))
			within().check(t, is("true"), list(object([]string{"x"}, a), object([]string{"x"}, b)), list(object([]string{"x"}, b)))
			within().check(t, is("false"), object([]string{"x"}, list(a)), object([]string{"x"}, list(b)))
		}
	}
}

// TestP121ContainsItself: whatever it is, it has all of itself, and of what was left out of it.
func TestP121ContainsItself(t *testing.T) {
	d := dice(1212)
	yes := 0
	for range 10000 {
		v := d.value(4)
		within().check(t, is("true"), v, v)
		less := d.lessened(v)
		if got := within().do(v, less); same(got.v, one("true")) && !same(v, less) {
			yes++
		}
	}
	if yes < 1000 {
		t.Error("too few had what was left of them:", yes)
	}
}

// TestP121ContainsMany: each of one great list is held against each of the other in a time that both allow.
func TestP121ContainsMany(t *testing.T) {
	up, down := list(), list()
	for i := range api.MaxItems {
		up.List = append(up.List, num(i))
		down.List = append(down.List, num(api.MaxItems-1-i))
	}
	within().check(t, is("true"), up, down)
	within().check(t, is("false"), down, list(append(many(api.MaxItems-1, num(0)), num(-1))...))
	rows := list(many(100, list(up.List[:100]...))...)
	within().check(t, is("true"), rows, list(many(100, list(down.List[api.MaxItems-100:]...))...))
	within().check(t, is("false"), rows, list(append(many(99, rows.List[0]), list(num(100)))...))
	within().check(t, is("true"), nested(api.MaxDepth, num(1)), nested(api.MaxDepth-1, list()))
	within().check(t, is("false"), nested(api.MaxDepth-1, list()), nested(api.MaxDepth, num(1)))
}
