package path

import (
	"cmp"
	"fmt"
	"slices"
	"strings"
	"testing"

	"bolter/api"
	"bolter/printer"
	"bolter/reader"
	"bolter/value"
)

// dice gives numbers that look like chance and are the same in every run.
type dice uint64

func (d *dice) below(n int) int {
	*d = *d*6364136223846793005 + 1442695040888963407
	return int(*d>>33) % n
}

func pick[T any](d *dice, l []T) T {
	return l[d.below(len(l))]
}

// read answers the values of a JSON text, which may be many.
func read(s string) []api.Value {
	l, _, e := reader.All([]byte(s))
	if e != api.OK {
		panic(fmt.Sprint("no JSON text: ", s, e))
	}
	return l
}

// one answers the only value of a JSON text.
func one(s string) api.Value {
	l := read(s)
	if len(l) != 1 {
		panic("not one value: " + s)
	}
	return l[0]
}

// These put values together, whether they may be or not.
func number(n int) api.Value              { return value.Number(n) }
func text(s string) api.Value             { return api.Value{Kind: 4, Text: s} }
func list(l ...api.Value) api.Value       { return api.Value{Kind: 5, List: l} }
func many(n int, v api.Value) []api.Value { return slices.Repeat([]api.Value{v}, n) }
func object(keys []string, l ...api.Value) api.Value {
	return api.Value{Kind: 6, Keys: keys, List: l}
}

// sliced answers the step that is a slice.
func sliced(start, end api.Value) api.Value {
	return object([]string{"end", "start"}, end, start)
}

// nested puts v into so many lists.
func nested(times int, v api.Value) api.Value {
	for range times {
		v = list(v)
	}
	return v
}

// keys answers so many keys, rising.
func keys(n int) []string {
	out := make([]string, n)
	for i := range out {
		out[i] = fmt.Sprint(1000000 + i)
	}
	return out
}

// wrong is a value that may not be, with value.Check's error of it.
type wrong struct {
	v api.Value
	e api.Errno
}

// wrongs are some of each error.
func wrongs() []wrong {
	return []wrong{
		{api.Value{Kind: 7}, api.ErrKind},
		{text("\xff"), api.ErrText},
		{text(strings.Repeat("a", api.MaxText+1)), api.ErrLong},
		{list(many(api.MaxItems+1, number(1))...), api.ErrLong},
		{api.Value{Text: "a"}, api.ErrState},
		{object([]string{"b", "a"}, number(1), number(2)), api.ErrState},
		{object([]string{"end", "start"}, number(1)), api.ErrState},
		{api.Value{Kind: 3, Num: api.Dec{Coef: []uint32{10}}}, api.ErrState},
		{nested(api.MaxDepth+1, number(1)), api.ErrDepth},
		{list(many(api.MaxSize, number(1))...), api.ErrCount},
	}
}

// same tells whether two values are, field by field, whether they may be or not.
func same(a, b api.Value) bool {
	return a.Kind == b.Kind && a.Text == b.Text && a.Num.Neg == b.Num.Neg && a.Num.Exp == b.Num.Exp &&
		slices.Equal(a.Num.Coef, b.Num.Coef) && slices.Equal(a.Keys, b.Keys) && slices.EqualFunc(a.List, b.List, same)
}

func samePath(a, b []api.Value) bool {
	return slices.EqualFunc(a, b, same)
}

// show answers a value for a person.
func show(v api.Value) string {
	out, e := printer.Compact(v)
	if e != api.OK {
		out = fmt.Sprint(v)
	}
	return out[:min(len(out), 300)]
}

func showAll(l ...api.Value) string {
	var out []string
	for _, v := range l {
		out = append(out, show(v))
	}
	return strings.Join(out, " ")
}

func showPaths(paths ...[]api.Value) string {
	out := ""
	for _, path := range paths {
		out += "(" + showAll(path...) + ") "
	}
	return out[:min(len(out), 500)]
}

// checkTold holds what a call told of something against what should be told; beside an error there is nothing.
func checkTold(t *testing.T, what string, v api.Value, e api.Errno, want api.Value, wantE api.Errno) {
	t.Helper()
	if wantE != api.OK {
		want = api.Value{}
	}
	if e != wantE || !same(v, want) {
		t.Errorf("%s: %s, error %d, not %s, error %d", what, show(v), e, show(want), wantE)
	}
}

// told is what should be told, in a test's table: a JSON text, or an error.
type told struct {
	text string
	e    api.Errno
}

func is(text string) told   { return told{text: text} }
func no(e api.Errno) told   { return told{e: e} }
func (w told) v() api.Value { return one(cmp.Or(w.text, "null")) }

func checkIndex(t *testing.T, v, step api.Value, want told) {
	t.Helper()
	got, e := Index(v, step)
	checkTold(t, "Index of "+showAll(v, step), got, e, want.v(), want.e)
}

func checkGet(t *testing.T, v api.Value, path []api.Value, want told) {
	t.Helper()
	got, e := Get(v, path)
	checkTold(t, "Get of "+show(v)+" by "+showPaths(path), got, e, want.v(), want.e)
}

func checkPut(t *testing.T, v, step, x api.Value, want told) {
	t.Helper()
	got, e := Put(v, step, x)
	checkTold(t, "Put of "+showAll(v, step, x), got, e, want.v(), want.e)
}

func checkSet(t *testing.T, v api.Value, path []api.Value, x api.Value, want told) {
	t.Helper()
	got, e := Set(v, path, x)
	checkTold(t, "Set of "+show(v)+" by "+showPaths(path)+" to "+show(x), got, e, want.v(), want.e)
}

func checkSlice(t *testing.T, v, from, to api.Value, want told) {
	t.Helper()
	got, e := Slice(v, from, to)
	checkTold(t, "Slice of "+showAll(v, from, to), got, e, want.v(), want.e)
}

func checkDelete(t *testing.T, v api.Value, paths [][]api.Value, want told) {
	t.Helper()
	got, e := Delete(v, paths...)
	checkTold(t, "Delete of "+show(v)+" by "+showPaths(paths...), got, e, want.v(), want.e)
}

// paths answers paths as they stand in a text: lists.
func paths(s string) [][]api.Value {
	var out [][]api.Value
	for _, v := range read(s) {
		out = append(out, v.List)
	}
	return out
}
