package order

import (
	"slices"
	"strconv"
	"strings"
	"testing"

	"bolter/api"
	"bolter/value"
)

func TestP61Sort(t *testing.T) {
	for _, c := range []struct{ l, want []api.Value }{
		{nil, nil},
		{numbers(7), numbers(7)},
		{numbers(3, 1, 2), numbers(1, 2, 3)},
		{numbers(2, 1), numbers(1, 2)},
		{numbers(1, 2), numbers(1, 2)},
		{numbers(10, 9, -10, 100, -9, 0), numbers(-10, -9, 0, 9, 10, 100)},
		{numbers(2, 1, 2, 1, 2), numbers(1, 1, 2, 2, 2)},
		{many(9, text("a")), many(9, text("a"))},
		{[]api.Value{text("b"), text("a"), text(""), text("\u00e9"), text("B")}, []api.Value{text(""), text("B"), text("a"), text("b"), text("\u00e9")}},
		{[]api.Value{list(), text(""), number(0), object(nil), {}, value.Bool(true), value.Bool(false)}, []api.Value{{}, value.Bool(false), value.Bool(true), number(0), text(""), list(), object(nil)}},
		{[]api.Value{list(number(2)), list(number(1), number(1)), list(number(1)), list()}, []api.Value{list(), list(number(1)), list(number(1), number(1)), list(number(2))}},
	} {
		got, e := Sort(c.l)
		checkList(t, "Sort of "+show(c.l), got, e, c.want)
	}
}

// TestP61SortAllKinds: values that are listed in their order, from any other order.
func TestP61SortAllKinds(t *testing.T) {
	d := dice(61)
	want := someValues()
	backward := slices.Clone(want)
	slices.Reverse(backward)
	for _, l := range [][]api.Value{want, backward} {
		got, e := Sort(l)
		checkList(t, "Sort", got, e, want)
	}
	for range 50 {
		got, e := Sort(shuffled(&d, want))
		checkList(t, "Sort", got, e, want)
	}
}

// TestP61OrderIsThatOfValue: each two values, and what comes of their order.
func TestP61OrderIsThatOfValue(t *testing.T) {
	all := append(someValues(), text(strings.Repeat("a", api.MaxText)), nested(64, number(1)), nested(63, text("a")), list(many(4096, number(1))...), list(append(many(4095, number(1)), number(2))...), list(many(4095, number(1))...))
	for _, a := range all {
		for _, b := range all {
			want := []api.Value{a, b}
			if ahead(b, a) {
				want = []api.Value{b, a}
			}
			got, e := Sort([]api.Value{a, b})
			checkList(t, "Sort of two", got, e, want)
			at, e := Most([]api.Value{a, b}, []api.Value{a, b})
			if (at == 0) != ahead(b, a) || e != api.OK {
				t.Errorf("Most of %s: %d, error %d", show([]api.Value{a, b}), at, e)
			}
		}
	}
}

// TestP61LongLists: more values than a list may have, and as many as make a sort change its ways.
func TestP61LongLists(t *testing.T) {
	d := dice(62)
	for _, n := range []int{11, 12, 13, 20, 21, 50, 51, 257, 1000, 5000} {
		var l, keys, want []api.Value
		for i := range n {
			l = append(l, number(i))
			keys = append(keys, number(i%7))
		}
		got, e := Sort(shuffled(&d, l))
		checkList(t, strconv.Itoa(n)+" values", got, e, l)
		for key := range 7 {
			for i := key; i < n; i += 7 {
				want = append(want, number(i))
			}
		}
		got, e = SortBy(l, keys)
		checkList(t, strconv.Itoa(n)+" values of seven keys", got, e, want)
	}
}

// TestP61GreatAmongMany: one value is held against many; it alone has as many parts as may be.
func TestP61GreatAmongMany(t *testing.T) {
	part := list(many(4094, number(1))...)
	great := list(part, part, part, part)
	if e := value.Check(great); e != api.OK {
		t.Fatal("the great value may not be:", e)
	}
	small := list(number(1))
	l := append(many(20000, small), great)
	got, e := Sort(append([]api.Value{great}, many(20000, small)...))
	checkList(t, "Sort", got[19990:], e, l[19990:])
	at, e := Index(l, great)
	checkPlaces(t, "Index", at, e, 20000)
	place, is, e := Search(l, great)
	if place != 20000 || !is || e != api.OK {
		t.Errorf("Search: %d, %v, error %d", place, is, e)
	}
}

func TestP61SortBy(t *testing.T) {
	abcd := []api.Value{text("a"), text("b"), text("c"), text("d")}
	for _, c := range []struct {
		keys []api.Value
		want string
	}{
		{numbers(1, 2, 3, 4), "abcd"},
		{numbers(4, 3, 2, 1), "dcba"},
		{numbers(2, 1, 2, 1), "bdac"},
		{numbers(1, 1, 1, 1), "abcd"},
		{numbers(1, 0, 0, 0), "bcda"},
		{numbers(0, 0, 0, -1), "dabc"},
		{[]api.Value{object(nil), text("1"), {}, number(1)}, "cdba"},
		{[]api.Value{list(number(1)), list(), list(number(1)), list()}, "bdac"},
		{[]api.Value{{Kind: 5, List: []api.Value{}}, {Kind: 5}, {Kind: 5, Keys: []string{}}, {Kind: 3, Num: api.Dec{Coef: []uint32{}}}}, "dabc"},
	} {
		var want []api.Value
		for _, name := range c.want {
			want = append(want, text(string(name)))
		}
		got, e := SortBy(abcd, c.keys)
		checkList(t, "SortBy "+show(c.keys), got, e, want)
	}
	got, e := SortBy(many(3, number(1)), numbers(3, 1, 2))
	checkList(t, "SortBy of like values", got, e, many(3, number(1)))
}

func TestP61GroupBy(t *testing.T) {
	l := numbers(1, 2, 3, 4, 5)
	for _, c := range []struct {
		keys []api.Value
		want [][]api.Value
	}{
		{numbers(0, 0, 0, 0, 0), [][]api.Value{l}},
		{numbers(1, 2, 3, 4, 5), [][]api.Value{numbers(1), numbers(2), numbers(3), numbers(4), numbers(5)}},
		{numbers(5, 4, 3, 2, 1), [][]api.Value{numbers(5), numbers(4), numbers(3), numbers(2), numbers(1)}},
		{numbers(1, 0, 1, 0, 1), [][]api.Value{numbers(2, 4), numbers(1, 3, 5)}},
		{numbers(9, 9, 9, 9, 1), [][]api.Value{numbers(5), numbers(1, 2, 3, 4)}},
		{numbers(1, 9, 9, 9, 9), [][]api.Value{numbers(1), numbers(2, 3, 4, 5)}},
		{numbers(2, 1, 3, 2, 2), [][]api.Value{numbers(2), numbers(1, 4, 5), numbers(3)}},
		{[]api.Value{text("b"), {}, text("a"), {}, text("b")}, [][]api.Value{numbers(2, 4), numbers(3), numbers(1, 5)}},
		{[]api.Value{{Kind: 5}, list(list()), {Kind: 5, List: []api.Value{}}, nested(2, api.Value{}), nested(1, api.Value{Kind: 5})}, [][]api.Value{numbers(1, 3), numbers(2, 5), numbers(4)}},
	} {
		got, e := GroupBy(l, c.keys)
		checkLists(t, "GroupBy "+show(c.keys), got, e, c.want)
	}
	got, e := GroupBy(numbers(8), numbers(3))
	checkLists(t, "GroupBy of one", got, e, [][]api.Value{numbers(8)})
	got, e = GroupBy(numbers(8, 8, 8), numbers(1, 2, 1))
	checkLists(t, "GroupBy of like values", got, e, [][]api.Value{numbers(8, 8), numbers(8)})
}

func TestP61UniqueBy(t *testing.T) {
	l := numbers(1, 2, 3, 4, 5)
	for _, c := range []struct{ keys, want []api.Value }{
		{numbers(0, 0, 0, 0, 0), numbers(1)},
		{numbers(1, 2, 3, 4, 5), numbers(1, 2, 3, 4, 5)},
		{numbers(5, 4, 3, 2, 1), numbers(5, 4, 3, 2, 1)},
		{numbers(1, 0, 1, 0, 1), numbers(2, 1)},
		{numbers(9, 9, 9, 9, 1), numbers(5, 1)},
		{numbers(2, 1, 3, 2, 2), numbers(2, 1, 3)},
		{[]api.Value{text("b"), {}, text("a"), {}, text("b")}, numbers(2, 3, 1)},
	} {
		got, e := UniqueBy(l, c.keys)
		checkList(t, "UniqueBy "+show(c.keys), got, e, c.want)
	}
	got, e := UniqueBy(numbers(8), numbers(3))
	checkList(t, "UniqueBy of one", got, e, numbers(8))
	got, e = UniqueBy(numbers(8, 8, 8), numbers(1, 2, 1))
	checkList(t, "UniqueBy of like values", got, e, numbers(8, 8))
}

func TestP61LeastMost(t *testing.T) {
	for _, c := range []struct {
		keys        []api.Value
		least, most int
	}{
		{numbers(7), 0, 0},
		{numbers(1, 2), 0, 1},
		{numbers(2, 1), 1, 0},
		{numbers(5, 5, 5, 5), 0, 3},
		{numbers(2, 1, 3, 1, 3, 2), 1, 4},
		{numbers(3, 1, 1, 3, 2), 1, 3},
		{numbers(1, 3, 3, 1), 0, 2},
		{numbers(-1, -10, 0), 1, 2},
		{[]api.Value{text("a"), number(9), object(nil), {}, list(object(nil))}, 3, 2},
		{[]api.Value{list(number(1)), list(), list(number(1), api.Value{})}, 1, 2},
		{[]api.Value{text("b"), text("a"), text("ab"), text("a"), text("b")}, 1, 4},
	} {
		l := many(len(c.keys), text("x"))
		if at, e := Least(l, c.keys); at != c.least || e != api.OK {
			t.Errorf("Least by %s: %d, error %d, not %d", show(c.keys), at, e, c.least)
		}
		if at, e := Most(l, c.keys); at != c.most || e != api.OK {
			t.Errorf("Most by %s: %d, error %d, not %d", show(c.keys), at, e, c.most)
		}
	}
}

// TestP61LeastMostByKeys: it is the keys that count, not the values.
func TestP61LeastMostByKeys(t *testing.T) {
	l, keys := numbers(1, 2, 3, 4), numbers(3, 2, 4, 3)
	least, _ := Least(l, keys)
	most, _ := Most(l, keys)
	if least != 1 || most != 2 {
		t.Errorf("Least %d, Most %d, not 1, 2", least, most)
	}
}

// checkSearch holds what Search says against what it should say.
func checkSearch(t *testing.T, l []api.Value, v api.Value, want int, wantIs bool) {
	t.Helper()
	if at, is, e := Search(l, v); at != want || is != wantIs || e != api.OK {
		t.Errorf("Search of %s in %s: %d, %v, error %d, not %d, %v", show(v), show(l), at, is, e, want, wantIs)
	}
}

func TestP62Search(t *testing.T) {
	checkSearch(t, nil, number(1), 0, false)
	checkSearch(t, []api.Value{}, api.Value{}, 0, false)
	for _, c := range []struct {
		l  []api.Value
		n  int
		at int
		is bool
	}{
		{numbers(1, 2, 3), 2, 1, true},
		{numbers(1, 2, 3), 1, 0, true},
		{numbers(1, 2, 3), 3, 2, true},
		{numbers(1, 2, 3), 0, 0, false},
		{numbers(1, 2, 3), 4, 3, false},
		{numbers(1, 3), 2, 1, false},
		{numbers(1, 2, 2, 2, 3), 2, 1, true},
		{numbers(2, 2, 2), 2, 0, true},
		{numbers(2, 2, 2), 1, 0, false},
		{numbers(2, 2, 2), 3, 3, false},
		{numbers(1, 3, 3, 3), 2, 1, false},
		{numbers(5), 5, 0, true},
	} {
		checkSearch(t, c.l, number(c.n), c.at, c.is)
	}
}

// TestP62SearchAllKinds: each value, where it is there, there several times, and not there.
func TestP62SearchAllKinds(t *testing.T) {
	all := someValues()
	for i, v := range all {
		checkSearch(t, all, v, i, true)
		checkSearch(t, all[:i], v, i, false)
		checkSearch(t, all[i:], v, 0, true)
		checkSearch(t, all[i+1:], v, 0, false)
		checkSearch(t, slices.Concat(all[:i], all[i+1:]), v, i, false)
		checkSearch(t, slices.Concat(all[:i], many(5, v), all[i+1:]), v, i, true)
	}
}

func TestP62Index(t *testing.T) {
	for _, c := range []struct {
		l    []api.Value
		n    int
		want []int
	}{
		{nil, 1, nil},
		{numbers(1, 2, 3), 4, nil},
		{numbers(1, 2, 3), 1, []int{0}},
		{numbers(1, 2, 3), 3, []int{2}},
		{numbers(3, 1, 2, 1, 1, 3), 1, []int{1, 3, 4}},
		{numbers(1, 1, 1), 1, []int{0, 1, 2}},
		{[]api.Value{text("1"), list(number(1)), number(1), {}}, 1, []int{2}},
	} {
		got, e := Index(c.l, number(c.n))
		checkPlaces(t, "Index of "+strconv.Itoa(c.n)+" in "+show(c.l), got, e, c.want...)
	}
	all := slices.Concat(someValues(), someValues())
	for i, v := range someValues() {
		got, e := Index(all, v)
		checkPlaces(t, "Index of "+show(v), got, e, i, i+len(all)/2)
	}
	zero := api.Value{Kind: 3, Num: api.Dec{Coef: []uint32{}}}
	got, e := Index([]api.Value{number(0), zero}, zero)
	checkPlaces(t, "Index of 0 without limbs", got, e, 0, 1)
}

// checkInOrder holds that l is in order, and has just what was handed in, as often.
func checkInOrder(t *testing.T, l, handed []api.Value) {
	t.Helper()
	for i := 1; i < len(l); i++ {
		if ahead(l[i], l[i-1]) {
			t.Errorf("%s stands ahead of %s", show(l[i-1]), show(l[i]))
		}
	}
	count := func(l []api.Value, v api.Value) int {
		n := 0
		for _, part := range l {
			if like(part, v) {
				n++
			}
		}
		return n
	}
	for _, v := range handed {
		if count(l, v) != count(handed, v) || len(l) != len(handed) {
			t.Errorf("%s: %d times, %d before", show(v), count(l, v), count(handed, v))
		}
	}
}

// TestP63: of many lists, with few values and with many.
func TestP63(t *testing.T) {
	d := dice(63)
	for round := range 600 {
		from := someValues()
		if round%2 == 0 {
			from = some(&d, 1+d.below(4), from)
		}
		l := some(&d, d.below(30), from)
		sorted, e := Sort(l)
		if e != api.OK {
			t.Fatal("error", e)
		}
		checkInOrder(t, sorted, l)
		if again, e := Sort(sorted); !sameList(again, sorted) || e != api.OK {
			t.Errorf("in order, and not the same: %s", show(sorted))
		}
		for _, v := range l {
			at, is, e := Search(sorted, v)
			places, _ := Index(sorted, v)
			if !is || e != api.OK || places[0] != at || places[len(places)-1]-at != len(places)-1 {
				t.Errorf("%s: found at %d, is at %v", show(v), at, places)
			}
		}
	}
}

// TestP63ByKeys: all calls that take keys, against the places where their values should be.
func TestP63ByKeys(t *testing.T) {
	d := dice(64)
	for range 600 {
		n := 1 + d.below(30)
		l := shuffled(&d, someValues())[:n]
		keys := some(&d, n, some(&d, 1+d.below(12), someValues()))
		places := wantPlaces(keys)
		want := wantItems(l, places)
		got, e := SortBy(l, keys)
		checkList(t, "SortBy "+show(keys), got, e, want)

		var groups [][]api.Value
		var firsts []api.Value
		for i, place := range places {
			if i == 0 || !like(keys[place], keys[places[i-1]]) {
				groups = append(groups, nil)
				firsts = append(firsts, l[place])
			}
			groups[len(groups)-1] = append(groups[len(groups)-1], l[place])
		}
		lists, e := GroupBy(l, keys)
		checkLists(t, "GroupBy "+show(keys), lists, e, groups)
		checkList(t, "GroupBy, laid together", slices.Concat(lists...), e, want)
		got, e = UniqueBy(l, keys)
		checkList(t, "UniqueBy "+show(keys), got, e, firsts)
		if at, e := Least(l, keys); at != places[0] || e != api.OK {
			t.Errorf("Least by %s: %d, error %d, not %d", show(keys), at, e, places[0])
		}
		if at, e := Most(l, keys); at != places[n-1] || e != api.OK {
			t.Errorf("Most by %s: %d, error %d, not %d", show(keys), at, e, places[n-1])
		}
	}
}

// TestGroupsEnd: who ranges over groups may stop at any of them.
func TestGroupsEnd(t *testing.T) {
	r := ranked[int]{[]int{3, 1, 3, 2, 1}, func(a, b int) int { return a - b }}
	for stop := range 4 {
		var met [][]int
		for places := range r.groups() {
			if len(met) == stop {
				break
			}
			met = append(met, places)
		}
		want := [][]int{{1, 4}, {3}, {0, 2}}
		if !slices.EqualFunc(met, want[:stop], slices.Equal) {
			t.Errorf("groups up to %d: %v", stop, met)
		}
	}
}
