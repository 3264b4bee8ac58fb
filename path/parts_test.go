package path

import (
	"slices"
	"strings"
	"testing"

	"bolter/api"
	"bolter/value"
)

// checkPaths holds what All or Leaves told against what should be told.
func checkPaths(t *testing.T, what string, v api.Value, got [][]api.Value, e api.Errno, want [][]api.Value, wantE api.Errno) {
	t.Helper()
	if e != wantE || !slices.EqualFunc(got, want, samePath) {
		t.Errorf("%s of %s: %d paths %s, error %d, not %d paths %s, error %d", what, show(v), len(got), showPaths(got...), e, len(want), showPaths(want...), wantE)
	}
}

func isPart(path []api.Value, v api.Value) bool { return len(path) > 0 }

func isLeaf(path []api.Value, v api.Value) bool {
	return v.Kind != 5 && v.Kind != 6 || len(v.List) == 0
}

// checkParts holds All and Leaves of a value that may be against the words of the chapter.
func checkParts(t *testing.T, v api.Value) {
	t.Helper()
	for what, c := range map[string]struct {
		call   func(v api.Value) ([][]api.Value, api.Errno)
		wanted func(path []api.Value, v api.Value) bool
	}{"All": {All, isPart}, "Leaves": {Leaves, isLeaf}} {
		want, wantE := wantPaths(v, c.wanted), api.OK
		if len(want) > api.MaxItems {
			want, wantE = nil, api.ErrCount
		}
		got, e := c.call(v)
		checkPaths(t, what, v, got, e, want, wantE)
	}
}

// TestP103Parts: the paths of all parts, and of those that hold nothing.
func TestP103Parts(t *testing.T) {
	for v, want := range map[string][2]string{
		"null": {"", "[]"}, "false": {"", "[]"}, "true": {"", "[]"}, "7": {"", "[]"}, `"abc"`: {"", "[]"}, "[]": {"", "[]"}, "{}": {"", "[]"},
		"[1]": {"[0]", "[0]"}, "[null,2]": {"[0] [1]", "[0] [1]"}, `{"a":1}`: {`["a"]`, `["a"]`}, `{"b":null,"a":false,"":3}`: {`[""] ["a"] ["b"]`, `[""] ["a"] ["b"]`},
		"[[]]": {"[0]", "[0]"}, "[{}]": {"[0]", "[0]"}, "[[],[[]],{}]": {"[0] [1] [1,0] [2]", "[0] [1,0] [2]"}, `{"a":{},"b":[[]]}`: {`["a"] ["b"] ["b",0]`, `["a"] ["b",0]`},
		`[[1,[2]],3]`: {"[0] [0,0] [0,1] [0,1,0] [1]", "[0,0] [0,1,0] [1]"},
		`{"a":[1,{"b":2}],"c":{"d":{"e":[]},"f":"x"}}`:   {`["a"] ["a",0] ["a",1] ["a",1,"b"] ["c"] ["c","d"] ["c","d","e"] ["c","f"]`, `["a",0] ["a",1,"b"] ["c","d","e"] ["c","f"]`},
		`[{"start":0,"end":1},{"start":[7],"end":null}]`: {`[0] [0,"end"] [0,"start"] [1] [1,"end"] [1,"start"] [1,"start",0]`, `[0,"end"] [0,"start"] [1,"end"] [1,"start",0]`},
	} {
		got, e := All(one(v))
		checkPaths(t, "All", one(v), got, e, paths(want[0]), api.OK)
		got, e = Leaves(one(v))
		checkPaths(t, "Leaves", one(v), got, e, paths(want[1]), api.OK)
	}
	d := dice(1032)
	for range 5000 {
		checkParts(t, d.value(5))
	}
}

// TestP103PartsDeep: parts as deep as may be, with 64 steps.
func TestP103PartsDeep(t *testing.T) {
	for _, v := range []api.Value{nested(api.MaxDepth, number(1)), nested(api.MaxDepth-1, list()), nested(api.MaxDepth-1, object([]string{"a"}, number(1)))} {
		checkParts(t, v)
	}
	wide := list()
	for range api.MaxDepth {
		wide = list(number(1), wide, text("a"))
	}
	checkParts(t, wide.List[1])
}

// TestP103PartsCount: 4096 paths, and one more.
func TestP103PartsCount(t *testing.T) {
	most := api.MaxItems
	full := list(many(most, number(7))...)
	for _, c := range []struct {
		v           api.Value
		all, leaves int
	}{
		{full, most, most},
		{object(keys(most), many(most, list())...), most, most},
		{list(many(most-2, number(7))...), most - 2, most - 2},
		{list(append(many(most-2, number(7)), list(number(1)))...), most, most - 1},
		{list(append(many(most-2, number(7)), list(number(1), number(2)))...), most + 1, most},
		{list(append(many(most-2, number(7)), list(number(1), number(2), number(3)))...), most + 2, most + 1},
		{list(append(many(most-1, number(7)), list(list(number(1))))...), most + 2, most},
		{list(append(many(most-1, number(7)), list(list()))...), most + 1, most},
		{list(full), most + 1, most},
		{list(full, list()), most + 2, most + 1},
		{list(list(), full), most + 2, most + 1},
		{object([]string{"a"}, full), most + 1, most},
		{list(many(most, list(number(7)))...), 2 * most, most},
		{list(many(most, list(number(7), number(8)))...), 3 * most, 2 * most},
		{list(full, full, full), 3*most + 3, 3 * most},
	} {
		checkParts(t, c.v)
		for what, n := range map[string]int{"All": c.all, "Leaves": c.leaves} {
			call := map[string]func(v api.Value) ([][]api.Value, api.Errno){"All": All, "Leaves": Leaves}[what]
			wantN, wantE := n, api.OK
			if n > most {
				wantN, wantE = 0, api.ErrCount
			}
			if got, e := call(c.v); len(got) != wantN || e != wantE {
				t.Errorf("%s of %d parts: %d paths, error %d", what, n, len(got), e)
			}
		}
	}
}

// TestP103PartsLong: paths that would be of far more octets than the value are too many, not too much.
func TestP103PartsLong(t *testing.T) {
	v := list(many(api.MaxItems, list(number(1)))...)
	for range api.MaxDepth - 2 {
		v = object([]string{strings.Repeat("k", api.MaxText)}, v)
	}
	got, e := All(v)
	checkPaths(t, "All", v, got, e, nil, api.ErrCount)
}

// TestP103PartsErrors: value.Check's error goes ahead.
func TestP103PartsErrors(t *testing.T) {
	for _, w := range wrongs() {
		for _, v := range []api.Value{w.v, list(number(1), list(w.v))} {
			e := value.Check(v)
			got, gotE := All(v)
			checkPaths(t, "All", v, got, gotE, nil, e)
			got, gotE = Leaves(v)
			checkPaths(t, "Leaves", v, got, gotE, nil, e)
		}
	}
}
