package events

import (
	"fmt"
	"slices"
	"strings"
	"testing"

	"bolter/api"
	"bolter/printer"
	"bolter/reader"
	"bolter/value"
)

// dice gives numbers that look like chance and are the same in every run.
type dice uint64

func (d *dice) below(n int) int {
	*d = *d*6364136223846793005 + 1442695040888963407
	return int(*d>>33) % n
}

func pick[T any](d *dice, l []T) T {
	return l[d.below(len(l))]
}

// read answers the values of a JSON text, which may be many.
func read(s string) []api.Value {
	l, _, e := reader.All([]byte(s))
	if e != api.OK {
		panic(fmt.Sprint("no JSON text: ", s, e))
	}
	return l
}

// one answers the only value of a JSON text.
func one(s string) api.Value {
	l := read(s)
	if len(l) != 1 {
		panic("not one value: " + s)
	}
	return l[0]
}

// These put values together, whether they may be or not.
func num(n int) api.Value                 { return value.Number(n) }
func text(s string) api.Value             { return api.Value{Kind: 4, Text: s} }
func list(l ...api.Value) api.Value       { return api.Value{Kind: 5, List: l} }
func many(n int, v api.Value) []api.Value { return slices.Repeat([]api.Value{v}, n) }
func object(keys []string, l ...api.Value) api.Value {
	return api.Value{Kind: 6, Keys: keys, List: l}
}

// steps answers a path of so many steps, each the same.
func steps(n int, step api.Value) api.Value { return list(many(n, step)...) }

// nested puts v into so many lists.
func nested(times int, v api.Value) api.Value {
	for range times {
		v = list(v)
	}
	return v
}

// keyed answers an object with the values at rising keys.
func keyed(l ...api.Value) api.Value {
	return object(keys(len(l)), l...)
}

// keys answers so many keys, rising.
func keys(n int) []string {
	out := make([]string, n)
	for i := range out {
		out[i] = fmt.Sprint(1000000 + i)
	}
	return out
}

// wrong is a value that may not be, with value.Check's error of it.
type wrong struct {
	v api.Value
	e api.Errno
}

// wrongs are some of each error, events among them, but for that.
func wrongs() []wrong {
	return []wrong{
		{api.Value{Kind: 7}, api.ErrKind},
		{list(list(), api.Value{Kind: -1}), api.ErrKind},
		{text("\xff"), api.ErrText},
		{list(list(text("\xc3")), num(1)), api.ErrText},
		{object([]string{"\xc3"}, num(1)), api.ErrText},
		{list(list(num(0)), text(strings.Repeat("a", api.MaxText+1))), api.ErrLong},
		{list(steps(api.MaxItems+1, num(0))), api.ErrLong},
		{list(many(api.MaxItems+1, num(1))...), api.ErrLong},
		{api.Value{Text: "a"}, api.ErrState},
		{list(list(), api.Value{Kind: 1, List: []api.Value{{}}}), api.ErrState},
		{list(list(num(0)), api.Value{List: []api.Value{{}}}), api.ErrState},
		{object([]string{"b", "a"}, num(1), num(2)), api.ErrState},
		{list(list(num(0)), object([]string{"a"})), api.ErrState},
		{list(list(api.Value{Kind: 3, Num: api.Dec{Coef: []uint32{10}}})), api.ErrState},
		{nested(api.MaxDepth+1, num(1)), api.ErrDepth},
		{list(many(api.MaxSize, num(1))...), api.ErrCount},
		{list(list(num(0)), nested(api.MaxDepth, num(1))), api.ErrDepth},
	}
}

// same tells whether two values are, field by field, whether they may be or not.
func same(a, b api.Value) bool {
	return a.Kind == b.Kind && a.Text == b.Text && a.Num.Neg == b.Num.Neg && a.Num.Exp == b.Num.Exp &&
		slices.Equal(a.Num.Coef, b.Num.Coef) && slices.Equal(a.Keys, b.Keys) && slices.EqualFunc(a.List, b.List, same)
}

func sameAll(a, b []api.Value) bool {
	return slices.EqualFunc(a, b, same)
}

// show answers a value for a person, cut short.
func show(v api.Value) string {
	out, e := printer.Compact(v)
	if e != api.OK {
		out = fmt.Sprintf("(kind %d, %d values, no printer's)", v.Kind, len(v.List))
	}
	return out[:min(len(out), 300)]
}

func showAll(l []api.Value) string {
	out := fmt.Sprintf("%d values:", len(l))
	for _, v := range l[:min(len(l), 12)] {
		out += " " + show(v)
	}
	return out
}

// told is what is told, or should be: values, or an error.
type told struct {
	l []api.Value
	e api.Errno
}

func as(l ...api.Value) told { return told{l: l} }
func is(s string) told       { return told{l: read(s)} }
func no(e api.Errno) told    { return told{e: e} }

func (a told) show() string { return fmt.Sprintf("%s, error %d", showAll(a.l), a.e) }

func (a told) equals(b told) bool { return a.e == b.e && sameAll(a.l, b.l) }

// call is one of the calls, of a list of values: To is handed the first of it, which Leaves tells as two numbers; 0 and 0 beside an error stand as none.
type call struct {
	name string
	do   func(l []api.Value) told
}

func to() call {
	return call{"To", func(l []api.Value) told {
		out, e := To(l[0])
		return told{out, e}
	}}
}

func from() call {
	return call{"From", func(l []api.Value) told {
		out, e := From(l)
		return told{out, e}
	}}
}

func truncate(depth int) call {
	return call{fmt.Sprint("Truncate by ", depth), func(l []api.Value) told {
		out, e := Truncate(l, depth)
		return told{out, e}
	}}
}

func leaves() call {
	return call{"Leaves", func(l []api.Value) told {
		leaves, ends, e := Leaves(l)
		if e != api.OK && leaves == 0 && ends == 0 {
			return no(e)
		}
		return told{[]api.Value{num(leaves), num(ends)}, e}
	}}
}

// ofEvents are the calls that are handed events and tell no error but of these.
func ofEvents() []call {
	return []call{from(), truncate(0), truncate(1), truncate(2), truncate(70), leaves()}
}

// calls are all of them.
func calls() []call { return append(ofEvents(), to(), truncate(-1)) }

// check holds what a call tells of values against what it should; beside an error there is nothing.
func (c call) check(t *testing.T, want told, l ...api.Value) {
	t.Helper()
	if got := c.do(l); !got.equals(want) {
		t.Errorf("%s of %s: %s, not %s", c.name, showAll(l), got.show(), want.show())
	}
}

// table holds a call against JSON texts: what it is handed, and what it tells.
func (c call) table(t *testing.T, rows [][2]string) {
	t.Helper()
	for _, row := range rows {
		c.check(t, is(row[1]), read(row[0])...)
	}
}

// fails holds that a call tells an error of values, by their JSON texts.
func (c call) fails(t *testing.T, e api.Errno, rows ...string) {
	t.Helper()
	for _, row := range rows {
		c.check(t, no(e), read(row)...)
	}
}

// sure answers what a call tells, which is no error.
func (c call) sure(t *testing.T, l ...api.Value) []api.Value {
	t.Helper()
	out := c.do(l)
	if out.e != api.OK {
		t.Errorf("%s of %s: error %d", c.name, showAll(l), out.e)
	}
	return out.l
}
