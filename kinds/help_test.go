package kinds

import (
	"fmt"
	"slices"
	"strings"
	"testing"

	"bolter/api"
	"bolter/printer"
	"bolter/reader"
	"bolter/value"
)

// dice gives numbers that look like chance and are the same in every run.
type dice uint64

func (d *dice) below(n int) int {
	*d = *d*6364136223846793005 + 1442695040888963407
	return int(*d>>33) % n
}

func pick[T any](d *dice, l []T) T {
	return l[d.below(len(l))]
}

// read answers the values of a JSON text, which may be many.
func read(s string) []api.Value {
	l, _, e := reader.All([]byte(s))
	if e != api.OK {
		panic(fmt.Sprint("no JSON text: ", s, e))
	}
	return l
}

// one answers the only value of a JSON text.
func one(s string) api.Value {
	l := read(s)
	if len(l) != 1 {
		panic("not one value: " + s)
	}
	return l[0]
}

// These put values together, whether they may be or not.
func num(n int) api.Value                 { return value.Number(n) }
func long(s string, n int) api.Value      { return text(strings.Repeat(s, n)) }
func list(l ...api.Value) api.Value       { return api.Value{Kind: 5, List: l} }
func many(n int, v api.Value) []api.Value { return slices.Repeat([]api.Value{v}, n) }
func object(keys []string, l ...api.Value) api.Value {
	return api.Value{Kind: 6, Keys: keys, List: l}
}

// nested puts v into so many lists.
func nested(times int, v api.Value) api.Value {
	for range times {
		v = list(v)
	}
	return v
}

// keyed answers an object with the values at rising keys.
func keyed(l ...api.Value) api.Value {
	out := object(nil, l...)
	for i := range l {
		out.Keys = append(out.Keys, fmt.Sprint(1000000+i))
	}
	return out
}

// wrong is a value that may not be, with value.Check's error of it.
type wrong struct {
	v api.Value
	e api.Errno
}

// wrongs are some of each error.
func wrongs() []wrong {
	return []wrong{
		{api.Value{Kind: 7}, api.ErrKind},
		{api.Value{Kind: -1}, api.ErrKind},
		{text("\xff"), api.ErrText},
		{object([]string{"\xc3"}, num(1)), api.ErrText},
		{long("a", api.MaxText+1), api.ErrLong},
		{list(many(api.MaxItems+1, num(1))...), api.ErrLong},
		{api.Value{Text: "a"}, api.ErrState},
		{api.Value{Kind: 1, List: []api.Value{{}}}, api.ErrState},
		{object([]string{"b", "a"}, num(1), num(2)), api.ErrState},
		{object([]string{"a", "b"}, num(1)), api.ErrState},
		{object([]string{"a"}, num(1), num(2)), api.ErrState},
		{api.Value{Kind: 3, Num: api.Dec{Coef: []uint32{10}}}, api.ErrState},
		{nested(api.MaxDepth+1, num(1)), api.ErrDepth},
		{list(many(api.MaxSize, num(1))...), api.ErrCount},
	}
}

// kinds is a value or two of each kind.
func kinds() []api.Value {
	return read(`null false true 0 -1.5 "" "ab" [] [1,"a"] {} {"a":1}`)
}

// same tells whether two values are, field by field, whether they may be or not.
func same(a, b api.Value) bool {
	return a.Kind == b.Kind && a.Text == b.Text && a.Num.Neg == b.Num.Neg && a.Num.Exp == b.Num.Exp &&
		slices.Equal(a.Num.Coef, b.Num.Coef) && slices.Equal(a.Keys, b.Keys) && slices.EqualFunc(a.List, b.List, same)
}

// show answers a value for a person.
func show(v api.Value) string {
	out, e := printer.Compact(v)
	if e != api.OK {
		out = fmt.Sprintf("(kind %d, %d values, no printer's)", v.Kind, len(v.List))
	}
	return out[:min(len(out), 300)]
}

func showAll(l ...api.Value) string {
	var out []string
	for _, v := range l[:min(len(l), 8)] {
		out = append(out, show(v))
	}
	return strings.Join(out, " ")
}

// told is what is told, or should be: a value, or an error.
type told struct {
	v api.Value
	e api.Errno
}

func as(v api.Value) told   { return told{v: v} }
func is(text string) told   { return as(one(text)) }
func no(e api.Errno) told   { return told{e: e} }
func (w told) show() string { return fmt.Sprintf("%s, error %d", show(w.v), w.e) }

// call is one of the calls, of so many values. A name that it tells stands as a text, what is or is not as true or false; "" and false beside an error as null.
type call struct {
	name  string
	count int
	do    func(l ...api.Value) told
}

// of1 and of2 make a call of what tells a value or a truth.
func of1(name string, do func(v api.Value) (api.Value, api.Errno)) call {
	return call{name, 1, func(l ...api.Value) told {
		v, e := do(l[0])
		return told{v, e}
	}}
}

func of2(name string, do func(a, b api.Value) (bool, api.Errno)) call {
	return call{name, 2, func(l ...api.Value) told {
		is, e := do(l[0], l[1])
		if e != api.OK && !is {
			return no(e)
		}
		return told{value.Bool(is), e}
	}}
}

func typeOf() call {
	return call{"Type", 1, func(l ...api.Value) told {
		s, e := Type(l[0])
		if e != api.OK && s == "" {
			return no(e)
		}
		return told{text(s), e}
	}}
}

func flatten(depth int) call {
	return of1(fmt.Sprint("Flatten ", depth), func(v api.Value) (api.Value, api.Errno) { return Flatten(v, depth) })
}

func length() call    { return of1("Length", Length) }
func keys() call      { return of1("Keys", Keys) }
func has() call       { return of2("Has", Has) }
func within() call    { return of2("Contains", Contains) }
func entries() call   { return of1("Entries", Entries) }
func unentries() call { return of1("Unentries", Unentries) }
func reverse() call   { return of1("Reverse", Reverse) }
func numberOf() call  { return of1("Number", Number) }
func textOf() call    { return of1("Text", Text) }
func readOf() call    { return of1("Read", Read) }
func transpose() call { return of1("Transpose", Transpose) }

// calls are all of them.
func calls() []call {
	return []call{typeOf(), length(), keys(), has(), within(), entries(), unentries(), flatten(0), flatten(1), flatten(2), flatten(100), flatten(-1), reverse(), numberOf(), textOf(), readOf(), transpose()}
}

// check holds what a call tells of values against what it should; beside an error there is nothing.
func (c call) check(t *testing.T, want told, l ...api.Value) {
	t.Helper()
	if got := c.do(l...); got.e != want.e || !same(got.v, want.v) {
		t.Errorf("%s of %s: %s, not %s", c.name, showAll(l...), got.show(), want.show())
	}
}

// table holds a call of one value against JSON texts: the value, and what is told of it.
func (c call) table(t *testing.T, rows [][2]string) {
	t.Helper()
	for _, row := range rows {
		c.check(t, is(row[1]), one(row[0]))
	}
}

// truths holds a call of two values against JSON texts of both, where it tells true and where it tells false.
func (c call) truths(t *testing.T, yes, no [][2]string) {
	t.Helper()
	for _, row := range yes {
		c.check(t, is("true"), one(row[0]), one(row[1]))
	}
	for _, row := range no {
		c.check(t, is("false"), one(row[0]), one(row[1]))
	}
}

// types holds that a call tells ErrType of just those values of all kinds that may not be.
func (c call) types(t *testing.T, may func(l ...api.Value) bool) {
	t.Helper()
	for _, a := range kinds() {
		for _, b := range kinds() {
			l := []api.Value{a, b}[:c.count]
			if got := c.do(l...); (got.e != api.ErrType) != may(l...) || got.e != api.OK && !same(got.v, api.Value{}) {
				t.Errorf("%s of %s: %s", c.name, showAll(l...), got.show())
			}
		}
	}
}

// ofKinds tells of a value whether it is of one of the kinds.
func ofKinds(kinds ...int) func(l ...api.Value) bool {
	return func(l ...api.Value) bool { return slices.Contains(kinds, l[0].Kind) }
}
