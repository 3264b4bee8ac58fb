package order

import (
	"fmt"
	"slices"
	"strings"
	"testing"

	"bolter/api"
	"bolter/value"
)

// dice gives numbers that look like chance and are the same in every run.
type dice uint64

func (d *dice) below(n int) int {
	*d = *d*6364136223846793005 + 1442695040888963407
	return int(*d>>33) % n
}

// some answers so many of l, each as often as it comes.
func some[T any](d *dice, n int, l []T) []T {
	out := make([]T, n)
	for i := range out {
		out[i] = l[d.below(len(l))]
	}
	return out
}

// shuffled answers l in another order.
func shuffled[T any](d *dice, l []T) []T {
	out := slices.Clone(l)
	for i := range out {
		j := d.below(i + 1)
		out[i], out[j] = out[j], out[i]
	}
	return out
}

// These put values together, most of them by the layer below.
func number(n int) api.Value              { return value.Number(n) }
func text(s string) api.Value             { return value.Text(s) }
func list(l ...api.Value) api.Value       { return value.List(l...) }
func many(n int, v api.Value) []api.Value { return slices.Repeat([]api.Value{v}, n) }
func object(keys []string, l ...api.Value) api.Value {
	return api.Value{Kind: 6, Keys: keys, List: l}
}

func numbers(l ...int) []api.Value {
	var out []api.Value
	for _, n := range l {
		out = append(out, number(n))
	}
	return out
}

func decimal(digits uint32, exp int) api.Value {
	return api.Value{Kind: 3, Num: api.Dec{Coef: []uint32{digits}, Exp: exp}}
}

func nested(times int, v api.Value) api.Value {
	for range times {
		v = api.Value{Kind: 5, List: []api.Value{v}}
	}
	return v
}

// someValues are values that may be, of all kinds, rising.
func someValues() []api.Value {
	null, one := api.Value{}, number(1)
	return []api.Value{
		null, value.Bool(false), value.Bool(true),
		number(-100), number(-12), number(-3), number(0), decimal(1, -1000), decimal(15, -1), number(2), number(12), number(100), decimal(1, 1000),
		text(""), text("A"), text("a"), text("a\x00"), text("aa"), text("b"), text("\u00e9"), text("\uffff"), text("\U00010000"),
		list(), list(null), list(null, null), list(null, one), list(one), list(one, list()), list(number(2)), list(text("")), list(list()), list(list(null)),
		object(nil), object([]string{""}, null), object([]string{"a"}, null), object([]string{"a"}, one), object([]string{"a"}, list()), object([]string{"a", "b"}, null, null), object([]string{"a", "b"}, one, null), object([]string{"aa"}, null), object([]string{"b"}, null),
	}
}

// fault is a value that may not be, with value.Check's error of it.
type fault struct {
	v api.Value
	e api.Errno
}

// faults are some of each error.
func faults() []fault {
	return []fault{
		{api.Value{Kind: 7}, api.ErrKind}, {api.Value{Kind: -1}, api.ErrKind},
		{api.Value{Kind: 4, Text: "\xff"}, api.ErrText}, {object([]string{"\xff"}, number(1)), api.ErrText},
		{api.Value{Kind: 4, Text: strings.Repeat("a", api.MaxText+1)}, api.ErrLong}, {api.Value{Kind: 5, List: many(api.MaxItems+1, number(1))}, api.ErrLong},
		{api.Value{Kind: 1, Text: "a"}, api.ErrState}, {object([]string{"b", "a"}, number(1), number(2)), api.ErrState}, {list(list(api.Value{Kind: 3, Num: api.Dec{Neg: true}})), api.ErrState},
		{nested(65, number(1)), api.ErrDepth},
		{api.Value{Kind: 5, List: many(api.MaxSize, number(1))}, api.ErrCount},
	}
}

// ahead tells by layer 5 whether a stands ahead of b.
func ahead(a, b api.Value) bool {
	order, e := value.Compare(a, b)
	return order < 0 && e == api.OK
}

// like tells by layer 5 whether a is b.
func like(a, b api.Value) bool {
	order, e := value.Compare(a, b)
	return order == 0 && e == api.OK
}

// wantPlaces answers the places of the keys in order: each stands where as many are as go ahead of it.
func wantPlaces(keys []api.Value) []int {
	out := make([]int, len(keys))
	for i, key := range keys {
		to := 0
		for j, other := range keys {
			if ahead(other, key) || j < i && like(other, key) {
				to++
			}
		}
		out[to] = i
	}
	return out
}

// wantItems answers the values at the places.
func wantItems(l []api.Value, places []int) []api.Value {
	var out []api.Value
	for _, place := range places {
		out = append(out, l[place])
	}
	return out
}

func sameList(a, b []api.Value) bool {
	return slices.EqualFunc(a, b, like)
}

func sameLists(a, b [][]api.Value) bool {
	return slices.EqualFunc(a, b, sameList)
}

// show answers what is told for a person, cut short.
func show(told any) string {
	out := fmt.Sprint(told)
	return out[:min(len(out), 400)]
}

// checkList holds a list that was told and its error against those that should be.
func checkList(t *testing.T, what string, got []api.Value, e api.Errno, want []api.Value) {
	t.Helper()
	if !sameList(got, want) || e != api.OK {
		t.Errorf("%s: %s, error %d, not %s", what, show(got), e, show(want))
	}
}

// checkLists is checkList of groups.
func checkLists(t *testing.T, what string, got [][]api.Value, e api.Errno, want [][]api.Value) {
	t.Helper()
	if !sameLists(got, want) || e != api.OK {
		t.Errorf("%s: %s, error %d, not %s", what, show(got), e, show(want))
	}
}

// checkPlaces is checkList of places.
func checkPlaces(t *testing.T, what string, got []int, e api.Errno, want ...int) {
	t.Helper()
	if !slices.Equal(got, want) || e != api.OK {
		t.Errorf("%s: %v, error %d, not %v", what, got, e, want)
	}
}
