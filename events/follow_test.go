package events

import (
	"slices"
	"strings"
	"testing"

	"bolter/api"
	"bolter/path"
	"bolter/value"
)

// checkBack holds that a value comes back from its events.
func checkBack(t *testing.T, v api.Value) {
	t.Helper()
	from().check(t, as(v), to().sure(t, v)...)
}

// TestP153Back: a value comes back from its events; several, from theirs, one behind the other.
func TestP153Back(t *testing.T) {
	d := dice(1531)
	var l, all []api.Value
	for range 4000 {
		v := d.value(5)
		checkBack(t, v)
		l, all = append(l, v), append(all, to().sure(t, v)...)
	}
	from().check(t, as(l...), all...)
	for _, v := range read(`null false true 0 -0.5 1e1000 1e-1000 "" "a" [] {} [null] [[],[]] [{}] {"":{}} {"":{"":[]}} [null,null,[null]] {"0":[],"1":{}} {"a":null,"b":[null]}`) {
		checkBack(t, v)
	}
}

// TestP153Great: values at the limits come back.
func TestP153Great(t *testing.T) {
	most := api.MaxItems
	long := text(strings.Repeat("a", api.MaxText))
	for _, v := range []api.Value{
		list(many(most-1, num(1))...),
		list(many(most-1, api.Value{})...),
		list(many(most-1, object(nil))...),
		keyed(many(most-1, num(1))...),
		list(append(many(most/2-1, list(num(1))), list())...),
		keyed(many(most/2-1, object([]string{"a"}, num(1)))...),
		nested(api.MaxDepth, num(1)),
		nested(api.MaxDepth-1, list()),
		nested(api.MaxDepth-1, object(nil)),
		nested(63, list(many(most-64, num(1))...)),
		list(many(1000, long)...),
		object([]string{long.Text}, long),
		list(one(`1e1000`), one(`-1e-1000`), one(strings.Repeat("7", api.MaxDigits))),
	} {
		checkBack(t, v)
	}
	l := to().sure(t, nested(api.MaxDepth-1, list()))
	from().check(t, as(many(100, nested(api.MaxDepth-1, list()))...), slices.Repeat(l, 100)...)
}

// TestP153Cut: of a value whose last event is left out nothing comes back, but those ahead of it.
func TestP153Cut(t *testing.T) {
	d := dice(1532)
	for range 2000 {
		v, other := d.value(4), d.value(4)
		l := slices.Concat(to().sure(t, v), to().sure(t, other))
		from().check(t, as(v), l[:len(l)-1]...)
	}
}

// TestP153Counts: a value has as many leaves as path.Leaves tells, each there and with its path, and as many ends as lists and objects that hold some.
func TestP153Counts(t *testing.T) {
	d := dice(1533)
	for range 3000 {
		v := d.value(4)
		l := to().sure(t, v)
		paths, _ := path.Leaves(v)
		leaves().check(t, as(num(len(paths)), num(value.Size(v)-len(paths))), l...)
		var met [][]api.Value
		for _, event := range l {
			steps := event.List[0].List
			part, e := path.Get(v, steps)
			if e != api.OK || len(event.List) == 2 && !same(part, event.List[1]) {
				t.Errorf("%s, of %s", show(event), show(v))
			}
			if len(event.List) == 2 {
				met = append(met, steps)
			}
		}
		if !slices.EqualFunc(met, paths, sameAll) {
			t.Errorf("the leaves of %s have other paths", show(v))
		}
	}
}

// TestP153Parts: what is left of a value's events without their first step makes the parts that it holds.
func TestP153Parts(t *testing.T) {
	d := dice(1534)
	for range 3000 {
		v := d.value(4)
		l := to().sure(t, v)
		// Leaves by one step are left out with it; these would be the parts themselves.
		var want []api.Value
		for _, part := range v.List {
			if len(part.List) > 0 {
				want = append(want, part)
			}
		}
		from().check(t, as(want...), truncate(1).sure(t, l...)...)
	}
}

// TestP153Twice: to leave out steps and then others is to leave out all of them at once.
func TestP153Twice(t *testing.T) {
	d := dice(1535)
	for range 3000 {
		l, a, b := d.events(), d.below(3), d.below(3)
		truncate(a+b).check(t, truncate(a+b).do(l), l...)
		truncate(b).check(t, truncate(a+b).do(l), truncate(a).sure(t, l...)...)
	}
}
