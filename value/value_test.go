package value

import (
	"math"
	"math/big"
	"slices"
	"strconv"
	"testing"

	"bolter/api"
)

func TestP51DeepSize(t *testing.T) {
	for _, c := range []struct {
		v          api.Value
		deep, size int
	}{
		{api.Value{}, 0, 1}, {api.Value{Kind: 1}, 0, 1}, {api.Value{Kind: 2}, 0, 1}, {number(5), 0, 1}, {text("abc"), 0, 1},
		{list(), 1, 1}, {object(nil), 1, 1}, {api.Value{Kind: 5, List: []api.Value{}}, 1, 1}, {api.Value{Kind: 6, List: []api.Value{}, Keys: []string{}}, 1, 1},
		{list(number(1)), 1, 2}, {list(number(1), text("a")), 1, 3}, {object([]string{"a"}, number(1)), 1, 2},
		{list(list()), 2, 2}, {list(list(), list()), 2, 3}, {list(object(nil)), 2, 2}, {object([]string{"a"}, list()), 2, 2},
		{list(list(list(), list(list())), list()), 4, 6}, {list(list(), list(list(list())), number(1)), 4, 6}, {list(list(list(list())), number(1), list()), 4, 6},
		{object([]string{"a", "b"}, list(number(1), number(2)), object([]string{"c"}, text(""))), 2, 6},
		{object([]string{"a", "b"}), 1, 1}, {object(nil, number(1), list()), 2, 3},
		{api.Value{Kind: 0, List: []api.Value{list()}}, 0, 1}, {api.Value{Kind: 4, List: []api.Value{list()}}, 0, 1},
		{api.Value{Kind: -1, List: []api.Value{list()}}, 0, 1}, {api.Value{Kind: 7, List: []api.Value{list()}}, 0, 1}, {list(api.Value{Kind: 7, List: []api.Value{list()}}), 1, 2},
	} {
		if deep, size := Deep(c.v), Size(c.v); deep != c.deep || size != c.size {
			t.Errorf("%s: %d deep, of size %d, not %d, %d", show(c.v), deep, size, c.deep, c.size)
		}
	}
	d := dice(53)
	for range 2000 {
		v := d.value(6)
		if deep, size := Deep(v), Size(v); deep != wantDeep(v) || size != wantSize(v) {
			t.Errorf("%s: %d deep, of size %d, not %d, %d", show(v), deep, size, wantDeep(v), wantSize(v))
		}
	}
}

func TestP51DeepCounted(t *testing.T) {
	for _, n := range []int{1, 2, 63, 64, 65, 500, 998, 999, 1000, 1001, 1002, 5000, 1 << 16} {
		for _, wraps := range [][]func(api.Value) api.Value{{inList}, {inObject}, {behind}, {ahead}, {inObject, behind}} {
			if deep := Deep(nested(n, number(1), wraps...)); deep != min(n, 1000) {
				t.Errorf("%d deep: %d", n, deep)
			}
			if size, want := Size(nested(n, number(1), wraps...)), wantSize(nested(n, number(1), wraps...)); size != want {
				t.Errorf("%d deep, of size %d: %d", n, want, size)
			}
		}
	}
}

func TestP51SizeCounted(t *testing.T) {
	const most = 1 << 20
	for _, n := range []int{most - 2, most - 1, most, most + 1, most + 2, 2 * most} {
		if size := Size(list(many(n-1, number(1))...)); size != min(n, most) {
			t.Errorf("a list of size %d: %d", n, size)
		}
		if size := Size(list(object(nil, many(n-3, api.Value{})...), list())); size != min(n, most) {
			t.Errorf("an object of size %d: %d", n, size)
		}
		if deep := Deep(list(list(many(n, number(1))...), list(list()))); deep != 3 {
			t.Errorf("three deep, behind %d values: %d", n, deep)
		}
	}
}

// endless answers a list that holds itself so many times.
func endless(times int) api.Value {
	l := make([]api.Value, times)
	for i := range l {
		l[i] = api.Value{Kind: 5, List: l}
	}
	return l[0]
}

// TestP1Ends: values that hold themselves, or one value so often that nobody can count it, come to an end.
func TestP1Ends(t *testing.T) {
	often := list()
	for range 60 {
		often = list(often, often)
	}
	for _, c := range []struct {
		v    api.Value
		deep int
		want api.Errno
	}{{endless(1), 1000, api.ErrDepth}, {endless(3), 1000, api.ErrDepth}, {often, 61, api.ErrCount}} {
		if deep, size := Deep(c.v), Size(c.v); deep != c.deep || size != 1<<20 {
			t.Errorf("%d deep, of size %d", deep, size)
		}
		if e := Check(c.v); e != c.want {
			t.Errorf("Check: error %d, not %d", e, c.want)
		}
		order, e := Compare(number(1), c.v)
		if order != 0 || e != c.want {
			t.Errorf("Compare: %d, error %d, not %d", order, e, c.want)
		}
		v, e := Object([]string{"a"}, []api.Value{c.v})
		if checkValue(t, "Object", v, e, api.Value{}, c.want); True(c.v) != true {
			t.Error("True: false")
		}
	}
}

// TestP1CopyEnds: what a value has beyond the bound is left out of its copy, and nothing ahead of it.
func TestP1CopyEnds(t *testing.T) {
	for _, times := range []int{1, 2, 7} {
		for _, room := range []int{0, 1, 100, 5000} {
			v := copiedWithin(room, endless(times))
			if size, most := Size(v), 1+times+room; size > most || size <= most-times {
				t.Errorf("%d times itself, with room for %d: of size %d", times, room, size)
			}
			checkApart(t, "a copy of what is endless", []api.Value{v})
		}
	}
	v := list(number(1), list(number(2), number(3)), list(text("a"), list()))
	checkValue(t, "a copy with just enough room", copiedWithin(4, v), api.OK, v, api.OK)
	checkValue(t, "a copy with too little room", copiedWithin(3, v), api.OK, list(number(1), list(number(2), number(3)), list()), api.OK)
}

func TestP52Number(t *testing.T) {
	l := []int{0, 1, -1, 9, 10, -10, 12, 1000, -1500, 1<<31 - 1, 1 << 32, -1 << 32, 1<<53 + 1, math.MaxInt, math.MinInt, math.MinInt + 1}
	for n := -500; n < 500; n++ {
		l = append(l, n)
	}
	for _, n := range l {
		v := Number(n)
		checkCheck(t, "Number("+strconv.Itoa(n)+")", v, api.OK)
		want := new(big.Int).Mul(big.NewInt(int64(n)), new(big.Int).Exp(big.NewInt(10), big.NewInt(1000), nil))
		if v.Kind != 3 || scaled(v.Num).Cmp(want) != 0 {
			t.Errorf("Number(%d): %s", n, show(v))
		}
	}
	checkValue(t, "Number(-1500)", Number(-1500), api.OK, api.Value{Kind: 3, Num: api.Dec{Neg: true, Coef: []uint32{15}, Exp: 2}}, api.OK)
	checkValue(t, "Number(0)", Number(0), api.OK, api.Value{Kind: 3}, api.OK)
}

func TestP52Text(t *testing.T) {
	for _, s := range append(someTexts(), "\xff", "a\xc3", times("a", api.MaxText+1)) {
		checkValue(t, "Text", Text(s), api.OK, api.Value{Kind: 4, Text: s}, api.OK)
	}
}

func TestP52Bool(t *testing.T) {
	checkValue(t, "Bool(false)", Bool(false), api.OK, api.Value{Kind: 1}, api.OK)
	checkValue(t, "Bool(true)", Bool(true), api.OK, api.Value{Kind: 2}, api.OK)
}

func TestP52List(t *testing.T) {
	checkValue(t, "List()", List(), api.OK, api.Value{Kind: 5}, api.OK)
	checkValue(t, "List of nil", List(nil...), api.OK, api.Value{Kind: 5}, api.OK)
	all := someValues()
	checkValue(t, "List of many", List(all...), api.OK, list(all...), api.OK)
	d := dice(54)
	for _, v := range all {
		checkValue(t, "List of one", List(v), api.OK, list(v), api.OK)
		w := d.value(4)
		checkValue(t, "List of three", List(v, w, v), api.OK, list(v, w, v), api.OK)
	}
	for range 3000 {
		v := d.spoiled(d.value(4))
		checkValue(t, "List of what may not be", List(number(1), v), api.OK, list(number(1), v), api.OK)
	}
	deep := nested(3000, number(1), inList, inObject)
	checkValue(t, "List of what is deep", List(deep), api.OK, list(deep), api.OK)
	wide := many(1<<20+5, number(1))
	checkValue(t, "List of what is wide", List(wide...), api.OK, list(wide...), api.OK)
}

// wantObject looks for each key from the end on, the least key first.
func wantObject(keys []string, l []api.Value) (api.Value, api.Errno) {
	if len(keys) != len(l) {
		return api.Value{}, api.ErrCount
	}
	left := slices.Clone(keys)
	out := api.Value{Kind: 6}
	for len(left) > 0 {
		least := slices.Min(left)
		left = slices.DeleteFunc(left, func(key string) bool { return key == least })
		for i, key := range slices.Backward(keys) {
			if key == least {
				out.Keys, out.List = append(out.Keys, key), append(out.List, l[i])
				break
			}
		}
	}
	if e := wantCheck(out); e != api.OK {
		return api.Value{}, e
	}
	return out, api.OK
}

func TestP52Object(t *testing.T) {
	one, two, three, wrong := number(1), number(2), number(3), api.Value{Kind: 7}
	noNumber := api.Value{Kind: 3, Num: api.Dec{Neg: true}}
	for _, c := range []struct {
		what  string
		keys  []string
		list  []api.Value
		want  api.Value
		wantE api.Errno
	}{
		{"no keys", nil, nil, object(nil), api.OK},
		{"no keys, empty", []string{}, []api.Value{}, object(nil), api.OK},
		{"one", []string{"a"}, []api.Value{one}, object([]string{"a"}, one), api.OK},
		{"in order", []string{"a", "b"}, []api.Value{one, two}, object([]string{"a", "b"}, one, two), api.OK},
		{"out of order", []string{"b", "a"}, []api.Value{one, two}, object([]string{"a", "b"}, two, one), api.OK},
		{"by octets", []string{"\U00010000", "\uffff", "a", "B", ""}, []api.Value{one, two, three, one, two}, object([]string{"", "B", "a", "\uffff", "\U00010000"}, two, one, three, two, one), api.OK},
		{"twice", []string{"a", "a"}, []api.Value{one, two}, object([]string{"a"}, two), api.OK},
		{"twice, apart", []string{"a", "b", "a"}, []api.Value{one, two, three}, object([]string{"a", "b"}, three, two), api.OK},
		{"twice, the greater first", []string{"b", "a", "b"}, []api.Value{three, two, one}, object([]string{"a", "b"}, two, one), api.OK},
		{"the empty key twice", []string{"", ""}, []api.Value{two, one}, object([]string{""}, one), api.OK},
		{"more keys", []string{"a", "b"}, []api.Value{one}, api.Value{}, api.ErrCount},
		{"more values", []string{"a"}, []api.Value{one, two}, api.Value{}, api.ErrCount},
		{"no values", []string{"a"}, nil, api.Value{}, api.ErrCount},
		{"no keys for values", nil, []api.Value{one}, api.Value{}, api.ErrCount},
		{"the count ahead of all else", []string{"\xff", "\xff"}, []api.Value{wrong}, api.Value{}, api.ErrCount},
		{"a kind", []string{"a"}, []api.Value{wrong}, api.Value{}, api.ErrKind},
		{"a number", []string{"a"}, []api.Value{noNumber}, api.Value{}, api.ErrState},
		{"a fault that is not left", []string{"a", "a"}, []api.Value{wrong, one}, object([]string{"a"}, one), api.OK},
		{"a fault that is left", []string{"a", "a"}, []api.Value{one, wrong}, api.Value{}, api.ErrKind},
		{"the first fault by the keys", []string{"b", "a"}, []api.Value{wrong, noNumber}, api.Value{}, api.ErrState},
		{"a key of no characters", []string{"a", "\xff"}, []api.Value{one, wrong}, api.Value{}, api.ErrText},
		{"a long key", []string{times("a", api.MaxText+1)}, []api.Value{wrong}, api.Value{}, api.ErrLong},
		{"the longest key", []string{times("a", api.MaxText)}, []api.Value{one}, object([]string{times("a", api.MaxText)}, one), api.OK},
		{"as many as may be", keys(4096), many(4096, one), object(keys(4096), many(4096, one)...), api.OK},
		{"too many", keys(4097), many(4097, one), api.Value{}, api.ErrLong},
		{"too many by far", keys(16384), many(16384, one), api.Value{}, api.ErrCount},
		{"too many, but twice", append(keys(4096), keys(4096)...), append(many(4096, wrong), many(4096, two)...), object(keys(4096), many(4096, two)...), api.OK},
		{"deep", []string{"a"}, []api.Value{nested(63, one, inList)}, object([]string{"a"}, nested(63, one, inList)), api.OK},
		{"too deep", []string{"a"}, []api.Value{nested(64, one, inList)}, api.Value{}, api.ErrDepth},
		{"too deep ahead of a key", []string{"\xff"}, []api.Value{nested(64, one, inList)}, api.Value{}, api.ErrDepth},
		{"of the greatest size", []string{"a"}, []api.Value{ofSize(api.MaxSize - 1)}, object([]string{"a"}, ofSize(api.MaxSize-1)), api.OK},
		{"beyond it", []string{"\xff"}, []api.Value{ofSize(api.MaxSize)}, api.Value{}, api.ErrCount},
	} {
		v, e := Object(c.keys, c.list)
		checkValue(t, "Object, "+c.what, v, e, c.want, c.wantE)
	}
}

func TestP52ObjectMany(t *testing.T) {
	d := dice(55)
	for range 3000 {
		var l []api.Value
		var named []string
		for range d.next() % 12 {
			named = append(named, pick(&d, someTexts()))
			l = append(l, d.value(2))
		}
		if d.next()%10 == 0 {
			l = append(l, d.spoiled(d.value(2)))
			named = append(named, pick(&d, []string{"a", "\xff"}))
		}
		want, wantE := wantObject(named, l)
		v, e := Object(named, l)
		checkValue(t, "Object", v, e, want, wantE)
	}
}

func TestP52Get(t *testing.T) {
	rising := someTexts()
	var l []api.Value
	for i := range rising {
		l = append(l, list(number(i), text("of")))
	}
	v := object(rising, l...)
	for i, key := range rising {
		got, is := Get(v, key)
		if !is || !same(got, l[i]) {
			t.Errorf("Get of %q: %s, %v", key, show(got), is)
		}
		got, is = Get(object(rising[i:], l[i:]...), key)
		if !is || !same(got, l[i]) {
			t.Errorf("Get of the first, %q: %s, %v", key, show(got), is)
		}
		got, is = Get(object(slices.Delete(slices.Clone(rising), i, i+1), slices.Delete(slices.Clone(l), i, i+1)...), key)
		if is || !same(got, api.Value{}) {
			t.Errorf("Get of %q, which is not there: %s, %v", key, show(got), is)
		}
	}
	for _, key := range []string{"c", "aaa", "\x01", "\xff", "\U0010ffff", times("a", 20000)} {
		if got, is := Get(v, key); is || !same(got, api.Value{}) {
			t.Errorf("Get of %q, which is not there: %s, %v", key, show(got), is)
		}
	}
}

// TestP52GetNone: there is none in what is no object, and of null there is one.
func TestP52GetNone(t *testing.T) {
	if got, is := Get(object([]string{"a"}, api.Value{}), "a"); !is || !same(got, api.Value{}) {
		t.Errorf("Get of null: %s, %v", show(got), is)
	}
	for kind := -1; kind < 9; kind++ {
		for _, v := range []api.Value{{Kind: kind}, {Kind: kind, Keys: []string{"a"}, List: []api.Value{number(1)}}} {
			got, is := Get(v, "a")
			if want := kind == 6 && len(v.Keys) > 0; is != want || !want && !same(got, api.Value{}) {
				t.Errorf("Get of kind %d: %s, %v", kind, show(got), is)
			}
		}
	}
	short := object([]string{"a", "b"}, number(1))
	if got, is := Get(short, "a"); !is || !same(got, number(1)) {
		t.Errorf("Get of a value that is there: %s, %v", show(got), is)
	}
	if got, is := Get(short, "b"); is || !same(got, api.Value{}) {
		t.Errorf("Get of a key without a value: %s, %v", show(got), is)
	}
	if got, is := Get(object([]string{"b", "a"}, number(1), number(2)), "a"); !is || !same(got, number(2)) {
		t.Errorf("Get of keys out of order: %s, %v", show(got), is)
	}
}

func TestP52True(t *testing.T) {
	for i, v := range someValues() {
		if True(v) != (i > 1) {
			t.Errorf("True of %s: %v", show(v), True(v))
		}
	}
	for kind := -2; kind < 9; kind++ {
		if want := kind != 0 && kind != 1; True(api.Value{Kind: kind, Text: "a"}) != want {
			t.Errorf("True of kind %d: not %v", kind, want)
		}
	}
}
