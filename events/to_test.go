package events

import (
	"strings"
	"testing"

	"bolter/api"
	"bolter/value"
)

// TestP151ToLeaves: what holds no values is one leaf by no steps.
func TestP151ToLeaves(t *testing.T) {
	for _, v := range read(`null false true 0 -1.50 1e1000 "" "a" "é😀" [] {}`) {
		to().check(t, as(list(list(), v)), v)
	}
	longest := text(strings.Repeat("a", api.MaxText))
	to().check(t, as(list(list(), longest)), longest)
}

// TestP151To: the leaves of lists and objects, each with its path, in order, and an end behind the last of each.
func TestP151To(t *testing.T) {
	to().table(t, [][2]string{
		{`[1]`, `[[0],1] [[0]]`},
		{`[null]`, `[[0],null] [[0]]`},
		{`[1,"a",true]`, `[[0],1] [[1],"a"] [[2],true] [[2]]`},
		{`{"a":1}`, `[["a"],1] [["a"]]`},
		{`{"b":1,"a":2}`, `[["a"],2] [["b"],1] [["b"]]`},
		{`{"":null}`, `[[""],null] [[""]]`},
		{`[[]]`, `[[0],[]] [[0]]`},
		{`[{}]`, `[[0],{}] [[0]]`},
		{`{"a":[]}`, `[["a"],[]] [["a"]]`},
		{`[[1]]`, `[[0,0],1] [[0,0]] [[0]]`},
		{`[[[]]]`, `[[0,0],[]] [[0,0]] [[0]]`},
		{`[[1],[2]]`, `[[0,0],1] [[0,0]] [[1,0],2] [[1,0]] [[1]]`},
		{`[[1,2],3]`, `[[0,0],1] [[0,1],2] [[0,1]] [[1],3] [[1]]`},
		{`[3,[1,2]]`, `[[0],3] [[1,0],1] [[1,1],2] [[1,1]] [[1]]`},
		{`{"a":{"b":{"c":1}}}`, `[["a","b","c"],1] [["a","b","c"]] [["a","b"]] [["a"]]`},
		{`{"a":[1,{"b":2}]}`, `[["a",0],1] [["a",1,"b"],2] [["a",1,"b"]] [["a",1]] [["a"]]`},
		{`[{"a":[[],{}],"é":"x"},null]`, `[[0,"a",0],[]] [[0,"a",1],{}] [[0,"a",1]] [[0,"é"],"x"] [[0,"é"]] [[1],null] [[1]]`},
		{`{"0":{"0":0}}`, `[["0","0"],0] [["0","0"]] [["0"]]`},
	})
}

// TestP151ToDice: the events of any value are those that its parts tell, worked out as texts.
func TestP151ToDice(t *testing.T) {
	d := dice(1511)
	for range 3000 {
		v := d.value(5)
		to().check(t, wantTo(v), v)
	}
}

// TestP151ToErrors: what may not be is told by value.Check's error.
func TestP151ToErrors(t *testing.T) {
	for _, w := range wrongs() {
		to().check(t, no(w.e), w.v)
		if value.Deep(w.v) < api.MaxDepth && value.Size(w.v) < api.MaxItems {
			to().check(t, no(w.e), list(num(1), w.v))
			to().check(t, no(w.e), object([]string{"a"}, w.v))
		}
	}
	// What may not be goes ahead of too many events.
	to().check(t, no(api.ErrText), list(list(many(api.MaxItems, num(1))...), text("\xff")))
}

// TestP151ToMany: just MaxItems events are told, and one more is ErrCount, whether it is a leaf or an end.
func TestP151ToMany(t *testing.T) {
	most := api.MaxItems
	for _, v := range []api.Value{
		list(many(most-1, num(1))...),
		keyed(many(most-1, num(1))...),
		list(many(most-1, list())...),
		nested(63, list(many(most-64, num(1))...)),
		list(append(many(most/2-1, list(num(1))), list())...),
		list(list(many(most/2-1, num(1))...), list(many(most/2-2, num(1))...)),
	} {
		if got := to().do([]api.Value{v}); len(got.l) != most || got.e != api.OK {
			t.Errorf("To of %d values: %d events, error %d", value.Size(v), len(got.l), got.e)
		}
		to().check(t, wantTo(v), v)
		more := v
		more.List = append(many(1, list(v.List[0])), v.List[1:]...)
		if value.Deep(more) <= api.MaxDepth {
			to().check(t, no(api.ErrCount), more)
		}
		if v.Kind == 5 {
			more.List = append(many(1, num(1)), v.List...)
			to().check(t, no(api.ErrCount), more)
		}
	}
	for _, v := range []api.Value{
		list(many(most, num(1))...),
		keyed(many(most, num(1))...),
		list(many(most, list())...),
		list(many(3, list(many(most, num(1))...))...),
		list(many(1000, list(many(15, num(1))...))...),
	} {
		to().check(t, no(api.ErrCount), v)
	}
}

// TestP151ToDeep: paths are as long as values may be deep.
func TestP151ToDeep(t *testing.T) {
	v := nested(api.MaxDepth, text("x"))
	got := to().sure(t, v)
	if len(got) != api.MaxDepth+1 || len(got[0].List[0].List) != api.MaxDepth {
		t.Fatalf("To of a text in %d lists: %d events", api.MaxDepth, len(got))
	}
	for i, event := range got {
		want := list(steps(api.MaxDepth, num(0)), text("x"))
		if i > 0 {
			want = list(steps(api.MaxDepth-i+1, num(0)))
		}
		if !same(event, want) {
			t.Errorf("event %d: %s", i, show(event))
		}
	}
	to().check(t, wantTo(nested(api.MaxDepth-1, list())), nested(api.MaxDepth-1, list()))
}
