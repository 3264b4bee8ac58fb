package value

import (
	"slices"
	"testing"

	"bolter/api"
)

// checkOrder holds what Compare says of two values that may be, both ways round, against what it should say.
func checkOrder(t *testing.T, a, b api.Value, want int) {
	t.Helper()
	if order, e := Compare(a, b); order != want || e != api.OK {
		t.Errorf("Compare of %s and %s: %d, error %d, not %d", show(a), show(b), order, e, want)
	}
	if order, e := Compare(b, a); order != -want || e != api.OK {
		t.Errorf("Compare of %s and %s: %d, error %d, not %d", show(b), show(a), order, e, -want)
	}
	if wantOrder(a, b) != want {
		t.Errorf("the tests do not agree of %s and %s", show(a), show(b))
	}
}

// TestP51CompareP53: values that are listed in their order, each against each.
func TestP51CompareP53(t *testing.T) {
	l := someValues()
	for i, a := range l {
		checkOrder(t, a, copied(a), 0)
		for _, b := range l[i+1:] {
			checkOrder(t, a, b, -1)
		}
	}
}

// TestP51CompareExample: null, false, true, 0, "", [], {}.
func TestP51CompareExample(t *testing.T) {
	l := []api.Value{{}, Bool(false), Bool(true), Number(0), Text(""), List(), {Kind: 6}}
	for i, a := range l {
		for j, b := range l {
			if order, e := Compare(a, b); order != min(max(i-j, -1), 1) || e != api.OK {
				t.Errorf("Compare of example %d and %d: %d, error %d", i, j, order, e)
			}
		}
	}
}

func TestP51CompareNilP1(t *testing.T) {
	for kind := range 7 {
		checkOrder(t, api.Value{Kind: kind}, api.Value{Kind: kind, Num: api.Dec{Coef: []uint32{}}, List: []api.Value{}, Keys: []string{}}, 0)
	}
}

// TestP51CompareLong: what differs stands behind much that does not.
func TestP51CompareLong(t *testing.T) {
	long := times("a", api.MaxText-1)
	checkOrder(t, text(long+"a"), text(long+"b"), -1)
	checkOrder(t, text(long), text(long+"\x00"), -1)
	checkOrder(t, nested(63, text(long), behind), nested(63, text(long+"a"), behind), -1)
	checkOrder(t, nested(64, number(2), ahead), nested(64, number(10), ahead), -1)
	checkOrder(t, nested(64, number(2), inObject, inList), nested(64, number(2), inObject, inList), 0)
	all := many(api.MaxItems, number(1))
	checkOrder(t, list(all[1:]...), list(all...), -1)
	checkOrder(t, list(all...), list(append(slices.Clone(all[1:]), number(2))...), -1)
	checkOrder(t, object(keys(4096), all...), object(keys(4096), append(slices.Clone(all[1:]), number(2))...), -1)
	checkOrder(t, object(keys(4095), many(4095, list())...), object(keys(4096), all...), -1)
}

// TestP53: of many values, close to each other, the order is one.
func TestP53(t *testing.T) {
	d := dice(56)
	met := map[int]int{}
	for range 20000 {
		a, b, c := d.value(3), d.value(3), d.value(2)
		if d.next()%3 == 0 {
			a.Kind, b.Kind = 5, 5
			a = list(a.List...)
			b = list(append(slices.Clone(a.List), b.List...)...)
		}
		order := wantOrder(a, b)
		checkOrder(t, a, b, order)
		if (order == 0) != same(a, b) {
			t.Fatalf("0 of other values: %s, %s", show(a), show(b))
		}
		met[order]++
		l := []api.Value{a, b, c}
		slices.SortFunc(l, func(a, b api.Value) int { order, _ := Compare(a, b); return order })
		if order, _ := Compare(l[0], l[2]); order > 0 {
			t.Fatalf("the order goes round: %s, %s, %s", show(a), show(b), show(c))
		}
	}
	for order := -1; order <= 1; order++ {
		if met[order] < 500 {
			t.Errorf("%d came up %d times", order, met[order])
		}
	}
}

func TestP51CompareErrors(t *testing.T) {
	wrong := []api.Value{
		{Kind: 7}, text("\xff"), text(times("a", api.MaxText+1)), {Kind: 0, Text: "a"}, nested(65, number(1), inList), list(many(api.MaxSize, number(1))...),
	}
	for _, a := range wrong {
		for _, b := range append(someValues(), wrong...) {
			if order, e := Compare(a, b); order != 0 || e != wantCheck(a) {
				t.Errorf("Compare of %s and %s: %d, error %d, not %d", show(a), show(b), order, e, wantCheck(a))
			}
		}
		for _, b := range someValues() {
			if order, e := Compare(b, a); order != 0 || e != wantCheck(a) {
				t.Errorf("Compare of %s and %s: %d, error %d, not %d", show(b), show(a), order, e, wantCheck(a))
			}
		}
	}
}
