package printer

import (
	"math"
	"testing"

	"bolter/api"
)

func TestP91IndentExamples(t *testing.T) {
	one, two := number(1), number(2)
	both := object([]string{"a", "b", "c", "d"}, list(one, list(two), list()), object(nil), text("x: [1,2]"), object([]string{""}, api.Value{}))
	for _, c := range []struct {
		n    int
		v    api.Value
		want string
	}{
		{1, object([]string{"a"}, list(one)), "{\n \"a\": [\n  1\n ]\n}"},
		{0, object([]string{"a"}, list(one)), `{"a":[1]}`},
		{2, one, "1"}, {8, text("a\n"), `"a\n"`}, {1, list(), "[]"}, {3, object(nil), "{}"}, {8, list(list(), object(nil)), "[\n        [],\n        {}\n]"},
		{1, list(one, two), "[\n 1,\n 2\n]"}, {3, list(one, list(two)), "[\n   1,\n   [\n      2\n   ]\n]"}, {2, object([]string{"a", "b"}, one, list()), "{\n  \"a\": 1,\n  \"b\": []\n}"},
		{1, both, "{\n \"a\": [\n  1,\n  [\n   2\n  ],\n  []\n ],\n \"b\": {},\n \"c\": \"x: [1,2]\",\n \"d\": {\n  \"\": null\n }\n}"},
		{2, both, "{\n  \"a\": [\n    1,\n    [\n      2\n    ],\n    []\n  ],\n  \"b\": {},\n  \"c\": \"x: [1,2]\",\n  \"d\": {\n    \"\": null\n  }\n}"},
		{0, both, `{"a":[1,[2],[]],"b":{},"c":"x: [1,2]","d":{"":null}}`},
	} {
		checkIndent(t, c.v, c.n, c.want, api.OK)
	}
}

// TestP91Indent: each number of blanks that may be.
func TestP91Indent(t *testing.T) {
	all := someValues()
	d := dice(92)
	for range 500 {
		all = append(all, d.value(5))
	}
	for _, v := range all {
		for n := range api.MaxIndent + 1 {
			if want := wantIndent(v, n); len(want) <= most {
				checkIndent(t, v, n, want, api.OK)
			} else {
				checkIndent(t, v, n, "", api.ErrLong)
			}
		}
	}
}

func TestP91IndentEmpty(t *testing.T) {
	for n := range api.MaxIndent + 1 {
		checkIndent(t, list(), n, "[]", api.OK)
		checkIndent(t, object(nil), n, "{}", api.OK)
		checkIndent(t, api.Value{Kind: 5, List: []api.Value{}, Keys: []string{}}, n, "[]", api.OK)
	}
}

// noIndents are numbers of blanks that may not be.
func noIndents() []int {
	return []int{-1, -2, -8, 9, 10, 16, 64, 1 << 32, 1<<32 + 1, math.MinInt, math.MaxInt}
}

func TestP91IndentRange(t *testing.T) {
	for _, n := range noIndents() {
		for _, v := range someValues() {
			checkIndent(t, v, n, "", api.ErrRange)
		}
		// It goes ahead of too many octets.
		checkIndent(t, list(many(65, text(times("a", api.MaxText)))...), n, "", api.ErrRange)
	}
}

// TestP91IndentWrong: what v may not be is told, whatever n is.
func TestP91IndentWrong(t *testing.T) {
	eachWrong(t, func(what string, v api.Value, e api.Errno) {
		for _, n := range append(noIndents(), 0, 1, 5, 8) {
			got, f := Indent(v, n)
			checkText(t, "Indent", what, got, f, "", e)
		}
	})
}

func TestP91IndentLong(t *testing.T) {
	for _, n := range []int{1, 3, 8} {
		layout := func(v api.Value) string { return wantIndent(v, n) }
		for _, last := range endings() {
			v := sized(most, last, layout)
			checkIndent(t, v, n, layout(v), api.OK)
			for _, over := range []int{1, 2, 5, 9, 10, 70} {
				checkIndent(t, grown(v, over), n, "", api.ErrLong)
			}
		}
	}
}

// TestP91IndentDeep: of a value that is short, blanks alone can be too many.
func TestP91IndentDeep(t *testing.T) {
	for _, c := range []struct{ n, items int }{{8, 1900}, {8, 2100}, {4, 3900}, {4, 4096}, {1, 4096}} {
		v := nested(63, list(many(c.items, number(1))...), inList)
		if want := wantIndent(v, c.n); len(want) <= most {
			checkIndent(t, v, c.n, want, api.OK)
		} else {
			checkIndent(t, v, c.n, "", api.ErrLong)
		}
		checkIndent(t, v, 0, wantCompact(v), api.OK)
	}
}
