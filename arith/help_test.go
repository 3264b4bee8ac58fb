package arith

import (
	"fmt"
	"slices"
	"strings"
	"testing"

	"bolter/api"
	"bolter/printer"
	"bolter/reader"
	"bolter/value"
)

// dice gives numbers that look like chance and are the same in every run.
type dice uint64

func (d *dice) below(n int) int {
	*d = *d*6364136223846793005 + 1442695040888963407
	return int(*d>>33) % n
}

func pick[T any](d *dice, l []T) T {
	return l[d.below(len(l))]
}

// read answers the values of a JSON text, which may be many.
func read(s string) []api.Value {
	l, _, e := reader.All([]byte(s))
	if e != api.OK {
		panic(fmt.Sprint("no JSON text: ", s, e))
	}
	return l
}

// one answers the only value of a JSON text.
func one(s string) api.Value {
	l := read(s)
	if len(l) != 1 {
		panic("not one value: " + s)
	}
	return l[0]
}

// These put values together, whether they may be or not.
func num(n int) api.Value                 { return value.Number(n) }
func text(s string) api.Value             { return api.Value{Kind: 4, Text: s} }
func long(s string, n int) api.Value      { return text(strings.Repeat(s, n)) }
func list(l ...api.Value) api.Value       { return api.Value{Kind: 5, List: l} }
func many(n int, v api.Value) []api.Value { return slices.Repeat([]api.Value{v}, n) }
func object(keys []string, l ...api.Value) api.Value {
	return api.Value{Kind: 6, Keys: keys, List: l}
}

// nested puts v into so many lists.
func nested(times int, v api.Value) api.Value {
	for range times {
		v = list(v)
	}
	return v
}

// keyed answers an object with v at so many keys from a number on.
func keyed(from, n int, v api.Value) api.Value {
	out := object(nil, many(n, v)...)
	for i := range n {
		out.Keys = append(out.Keys, fmt.Sprint(1000000+from+i))
	}
	return out
}

// wrong is a value that may not be, with value.Check's error of it.
type wrong struct {
	v api.Value
	e api.Errno
}

// wrongs are some of each error.
func wrongs() []wrong {
	return []wrong{
		{api.Value{Kind: 7}, api.ErrKind},
		{api.Value{Kind: -1}, api.ErrKind},
		{text("\xff"), api.ErrText},
		{long("a", api.MaxText+1), api.ErrLong},
		{list(many(api.MaxItems+1, num(1))...), api.ErrLong},
		{api.Value{Text: "a"}, api.ErrState},
		{object([]string{"b", "a"}, num(1), num(2)), api.ErrState},
		{object([]string{"a", "b"}, num(1)), api.ErrState},
		{api.Value{Kind: 3, Num: api.Dec{Coef: []uint32{10}}}, api.ErrState},
		{nested(api.MaxDepth+1, num(1)), api.ErrDepth},
		{list(many(api.MaxSize, num(1))...), api.ErrCount},
	}
}

// kinds is a value or two of each kind.
func kinds() []api.Value {
	return read(`null false true 0 1.5 "" "ab" [] [1,"a"] {} {"a":1}`)
}

// same tells whether two values are, field by field, whether they may be or not.
func same(a, b api.Value) bool {
	return a.Kind == b.Kind && a.Text == b.Text && a.Num.Neg == b.Num.Neg && a.Num.Exp == b.Num.Exp &&
		slices.Equal(a.Num.Coef, b.Num.Coef) && slices.Equal(a.Keys, b.Keys) && slices.EqualFunc(a.List, b.List, same)
}

// show answers a value for a person.
func show(v api.Value) string {
	out, e := printer.Compact(v)
	if e != api.OK {
		out = fmt.Sprintf("(kind %d, %d values, no printer's)", v.Kind, len(v.List))
	}
	return out[:min(len(out), 300)]
}

func showAll(l ...api.Value) string {
	var out []string
	for _, v := range l[:min(len(l), 8)] {
		out = append(out, show(v))
	}
	return strings.Join(out, " ")
}

// told is what should be told: a value, or an error.
type told struct {
	v api.Value
	e api.Errno
}

func as(v api.Value) told   { return told{v: v} }
func is(text string) told   { return as(one(text)) }
func no(e api.Errno) told   { return told{e: e} }
func (w told) show() string { return fmt.Sprintf("%s, error %d", show(w.v), w.e) }

// call is one of the calls that take two values.
type call struct {
	name string
	do   func(a, b api.Value) (api.Value, api.Errno)
}

// calls are all calls that take two values, and may tell ErrType of them.
func calls() []call {
	return []call{{"Add", Add}, {"Sub", Sub}, {"Mul", Mul}, {"Div", Div}, {"Mod", Mod}}
}

// operators are those of Order.
func operators() []string {
	return []string{"==", "!=", "<", "<=", ">", ">="}
}

// checkTold holds what a call told of values against what should be told; beside an error there is nothing.
func checkTold(t *testing.T, what string, v api.Value, e api.Errno, want told, of ...api.Value) {
	t.Helper()
	if got := (told{v, e}); got.e != want.e || !same(got.v, want.v) {
		t.Errorf("%s of %s: %s, not %s", what, showAll(of...), got.show(), want.show())
	}
}

func (c call) check(t *testing.T, a, b api.Value, want told) {
	t.Helper()
	got, e := c.do(a, b)
	checkTold(t, c.name, got, e, want, a, b)
}

func checkNeg(t *testing.T, a api.Value, want told) {
	t.Helper()
	got, e := Neg(a)
	checkTold(t, "Neg", got, e, want, a)
}

func checkSum(t *testing.T, want told, l ...api.Value) {
	t.Helper()
	got, e := Sum(l...)
	checkTold(t, "Sum", got, e, want, l...)
}

func checkOrder(t *testing.T, op string, a, b api.Value, want told) {
	t.Helper()
	got, e := Order(op, a, b)
	checkTold(t, "Order by "+op, got, e, want, a, b)
}

// table holds a call against JSON texts: two values, and what is told of them.
func (c call) table(t *testing.T, rows [][3]string) {
	t.Helper()
	for _, row := range rows {
		c.check(t, one(row[0]), one(row[1]), is(row[2]))
	}
}

// types holds that a call tells ErrType of just those pairs of kinds that may not be, and nothing beside it.
func (c call) types(t *testing.T, may func(a, b api.Value) bool) {
	t.Helper()
	for _, a := range kinds() {
		for _, b := range kinds() {
			got, e := c.do(a, b)
			if fit := e != api.ErrType; fit != may(a, b) || e != api.OK && !same(got, api.Value{}) {
				t.Errorf("%s of %s: %s, error %d", c.name, showAll(a, b), show(got), e)
			}
		}
	}
}

// both tells whether two values are of one of the kinds.
func both(a, b api.Value, kinds ...int) bool {
	return a.Kind == b.Kind && slices.Contains(kinds, a.Kind)
}
