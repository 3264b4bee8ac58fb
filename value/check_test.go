package value

import (
	"math"
	"slices"
	"testing"

	"bolter/api"
)

// checkCheck holds what Check says of v against what it should say, by the test's own words and by the helper's.
func checkCheck(t *testing.T, what string, v api.Value, want api.Errno) {
	t.Helper()
	if e := Check(v); e != want {
		t.Errorf("Check of %s: error %d, not %d: %s", what, e, want, show(v))
	}
	if e := wantCheck(v); e != want {
		t.Errorf("the tests do not agree of %s: error %d, %d: %s", what, e, want, show(v))
	}
}

func TestP51CheckMayBe(t *testing.T) {
	for _, v := range someValues() {
		checkCheck(t, "a value that may be", v, api.OK)
	}
	d := dice(51)
	for range 2000 {
		checkCheck(t, "a value that may be", d.value(4), api.OK)
	}
}

func TestP51CheckKind(t *testing.T) {
	for _, kind := range []int{-1, 7, 8, -7, 1 << 32, 1<<32 + 3, math.MinInt, math.MaxInt} {
		for _, v := range []api.Value{
			{Kind: kind},
			{Kind: kind, Text: "a"},
			{Kind: kind, Num: api.Dec{Neg: true}},
			{Kind: kind, Text: "\xff", List: many(5000, api.Value{}), Keys: []string{"b", "\xff", times("a", 20000)}},
			list(api.Value{Kind: kind}),
			object([]string{"a", "b"}, number(1), api.Value{Kind: kind}),
			nested(63, api.Value{Kind: kind}, behind),
		} {
			checkCheck(t, "a kind that is none", v, api.ErrKind)
		}
	}
}

func TestP51CheckNumber(t *testing.T) {
	for _, a := range numbersThatMayNotBe() {
		v := api.Value{Kind: 3, Num: a}
		checkCheck(t, "a number that may not be", v, api.ErrState)
		checkCheck(t, "a list of it", list(number(1), v), api.ErrState)
		checkCheck(t, "an object of it", object([]string{"a"}, v), api.ErrState)
	}
	checkCheck(t, "0 of empty limbs", api.Value{Kind: 3, Num: api.Dec{Coef: []uint32{}}}, api.OK)
}

func TestP51CheckText(t *testing.T) {
	for _, s := range []string{"\xff", "a\x80", "\xc3", "\xc0\x80", "\xed\xa0\x80", "\xf4\x90\x80\x80", "\xe2\x82", times("a", api.MaxText-1) + "\xc3", times("a", 20000) + "\xff"} {
		checkCheck(t, "a text of no characters", text(s), api.ErrText)
		checkCheck(t, "it in a list", list(text("a"), text(s)), api.ErrText)
		checkCheck(t, "it as a key", object([]string{s}, number(1)), api.ErrText)
		checkCheck(t, "it as the last key", object([]string{"", "a", s}, number(1), number(2), number(3)), api.ErrText)
	}
}

// TestP51CheckLong: octets are counted, not characters.
func TestP51CheckLong(t *testing.T) {
	for _, char := range []string{"a", "\u0080", "\U0001f600", "\x00"} {
		whole := times(char, api.MaxText/len(char))
		for s, want := range map[string]api.Errno{
			whole:                               api.OK,
			whole[len(char):] + char:            api.OK,
			whole + "a":                         api.ErrLong,
			"a" + whole:                         api.ErrLong,
			times(char, api.MaxText/2+1):        api.ErrLong,
			whole[len(char):]:                   api.OK,
			times(char, api.MaxText) + "\u00e9": api.ErrLong,
		} {
			if len(s) <= api.MaxText {
				want = api.OK
			}
			checkCheck(t, "a text", text(s), want)
			checkCheck(t, "a key", object([]string{s}, number(1)), want)
			checkCheck(t, "the last key", object([]string{"", s}, number(1), number(2)), want)
		}
	}
}

func TestP51CheckItems(t *testing.T) {
	most := api.MaxItems
	for _, v := range []api.Value{{}, number(7), list(), object([]string{"a"}, api.Value{})} {
		checkCheck(t, "a list of 4096", list(many(most, v)...), api.OK)
		checkCheck(t, "a list of 4097", list(many(most+1, v)...), api.ErrLong)
		checkCheck(t, "an object of 4096", object(keys(most), many(most, v)...), api.OK)
		checkCheck(t, "an object of 4097", object(keys(most+1), many(most+1, v)...), api.ErrLong)
		checkCheck(t, "a list of 4097 in a list", list(v, list(many(most+1, v)...)), api.ErrLong)
		checkCheck(t, "an object of 4096 keys", object(keys(most), v), api.ErrState)
		checkCheck(t, "an object of 4097 keys", object(keys(most+1), v), api.ErrLong)
		checkCheck(t, "an object of 4096 values", object([]string{"a"}, many(most, v)...), api.ErrState)
		checkCheck(t, "an object of 4097 values", object([]string{"a"}, many(most+1, v)...), api.ErrLong)
	}
}

func TestP51CheckKeys(t *testing.T) {
	for _, v := range []api.Value{
		object([]string{"a"}),
		object(nil, number(1)),
		object([]string{"a", "b"}, number(1)),
		object([]string{"a"}, number(1), number(2)),
		object([]string{"b", "a"}, number(1), number(2)),
		object([]string{"a", "b", "a"}, number(1), number(2), number(3)),
		object([]string{"a", "c", "b"}, number(1), number(2), number(3)),
		object([]string{"a", "a"}, number(1), number(1)),
		object([]string{"", ""}, number(1), number(2)),
		object([]string{"a", "b", "b"}, number(1), number(2), number(3)),
		object([]string{"aa", "a"}, number(1), number(2)),
		object([]string{"a", "B"}, number(1), number(2)),
		object([]string{"\uffff", "\u00e9"}, number(1), number(2)),
		object([]string{"\U00010000", "\uffff"}, number(1), number(2)),
	} {
		checkCheck(t, "an object", v, api.ErrState)
		checkCheck(t, "it in an object", inObject(v), api.ErrState)
	}
	rising := someTexts()
	checkCheck(t, "rising keys", object(rising, many(len(rising), number(1))...), api.OK)
	for i := 1; i < len(rising); i++ {
		l := slices.Clone(rising)
		l[i-1], l[i] = l[i], l[i-1]
		checkCheck(t, "two keys the other way round", object(l, many(len(l), number(1))...), api.ErrState)
	}
}

// TestP51CheckUnused: what a kind does not use is zero, whatever it would be elsewhere.
func TestP51CheckUnused(t *testing.T) {
	long := times("a", 20000)
	deep := nested(100, number(1), inList)
	for kind, used := range []string{"", "", "", "n", "t", "l", "lk"} {
		base := api.Value{Kind: kind}
		for _, c := range []struct {
			field string
			put   func(v *api.Value)
		}{
			{"n", func(v *api.Value) { v.Num.Neg = true }},
			{"n", func(v *api.Value) { v.Num.Exp = 1 }},
			{"n", func(v *api.Value) { v.Num.Exp = -1 }},
			{"n", func(v *api.Value) { v.Num.Coef = []uint32{1} }},
			{"n", func(v *api.Value) { v.Num.Coef = []uint32{0} }},
			{"t", func(v *api.Value) { v.Text = "a" }},
			{"t", func(v *api.Value) { v.Text = "\x00" }},
			{"t", func(v *api.Value) { v.Text = "\xff" }},
			{"t", func(v *api.Value) { v.Text = long }},
			{"l", func(v *api.Value) { v.List = []api.Value{{}} }},
			{"l", func(v *api.Value) { v.List = []api.Value{{Kind: 9}} }},
			{"l", func(v *api.Value) { v.List = many(5000, api.Value{}) }},
			{"l", func(v *api.Value) { v.List = many(20000, api.Value{}) }},
			{"l", func(v *api.Value) { v.List = []api.Value{deep} }},
			{"k", func(v *api.Value) { v.Keys = []string{""} }},
			{"k", func(v *api.Value) { v.Keys = []string{"a"} }},
			{"k", func(v *api.Value) { v.Keys = []string{"\xff"} }},
			{"k", func(v *api.Value) { v.Keys = []string{long} }},
			{"k", func(v *api.Value) { v.Keys = keys(5000) }},
		} {
			if slices.Contains([]byte(used), c.field[0]) {
				continue
			}
			v := base
			c.put(&v)
			checkCheck(t, "what is not used", v, api.ErrState)
			checkCheck(t, "it in a list", list(number(1), v), api.ErrState)
		}
		base.Num.Coef, base.List, base.Keys = []uint32{}, []api.Value{}, []string{}
		checkCheck(t, "empty lists", base, api.OK)
	}
}

func TestP51CheckDepth(t *testing.T) {
	for _, wraps := range [][]func(api.Value) api.Value{{inList}, {inObject}, {behind}, {ahead}, {inList, inObject}, {ahead, behind, inObject}} {
		for _, v := range []api.Value{{}, number(1), text("a")} {
			checkCheck(t, "64 deep", nested(64, v, wraps...), api.OK)
			checkCheck(t, "65 deep", nested(65, v, wraps...), api.ErrDepth)
			checkCheck(t, "1000 deep", nested(1000, v, wraps...), api.ErrDepth)
		}
		for _, v := range []api.Value{list(), object(nil)} {
			checkCheck(t, "64 deep", nested(63, v, wraps...), api.OK)
			checkCheck(t, "65 deep", nested(64, v, wraps...), api.ErrDepth)
		}
		checkCheck(t, "5000 deep", nested(5000, api.Value{Kind: 9}, wraps...), api.ErrDepth)
	}
}

// ofSize answers a list that may be but for its size: so many values in all.
func ofSize(n int) api.Value {
	var out []api.Value
	for n--; n > 0; {
		part := many(min(n-1, api.MaxItems), number(3))
		out = append(out, list(part...))
		n -= len(part) + 1
	}
	return list(out...)
}

func TestP51CheckCount(t *testing.T) {
	most := api.MaxSize
	for _, n := range []int{most - 1, most} {
		checkCheck(t, "as many as may be", ofSize(n), api.OK)
	}
	for _, n := range []int{most + 1, most + 2, 2 * most, 1 << 18} {
		checkCheck(t, "too many", ofSize(n), api.ErrCount)
	}
	checkCheck(t, "too many in one list", list(many(most, number(1))...), api.ErrCount)
	checkCheck(t, "one fewer", list(many(most-1, number(1))...), api.ErrLong)
	checkCheck(t, "too many in one object", object(nil, many(most, number(1))...), api.ErrCount)
	checkCheck(t, "keys are no values", object(keys(2*most)), api.ErrLong)
	half := object(keys(4095), many(4095, text("a"))...)
	checkCheck(t, "objects", list(half, half, half, object(keys(4094), many(4094, api.Value{})...)), api.OK)
	checkCheck(t, "objects", list(half, half, half, half), api.ErrCount)
}

// TestP51CheckOrder: which error counts where there are several.
func TestP51CheckOrder(t *testing.T) {
	kind, noText, long, state := api.Value{Kind: 7}, text("\xff"), text(times("a", api.MaxText+1)), api.Value{Kind: 1, Text: "a"}
	deep := nested(65, kind, inList)
	tooMany := many(api.MaxSize, kind)
	for _, c := range []struct {
		what string
		v    api.Value
		want api.Errno
	}{
		{"too deep and too many", list(append(tooMany, deep)...), api.ErrDepth},
		{"too deep ahead of too many", list(append([]api.Value{deep}, tooMany...)...), api.ErrDepth},
		{"too many and a kind", list(tooMany...), api.ErrCount},
		{"too many and its own fault", api.Value{Kind: 5, Text: "a", Keys: []string{"\xff"}, List: tooMany}, api.ErrCount},
		{"a kind and all else", api.Value{Kind: -1, Num: api.Dec{Neg: true}, Text: "\xff", Keys: []string{"\xff"}, List: many(5000, kind)}, api.ErrKind},
		{"a key of no characters behind a long one", object([]string{long.Text, "\xff"}, number(1), number(2)), api.ErrText},
		{"a long key and one of no characters, in no order", object([]string{"\xff", long.Text, "a"}, kind), api.ErrText},
		{"a key of no characters and too many keys", object(append(keys(5000), "\xff")), api.ErrText},
		{"a text that is long and of no characters", text(long.Text + "\xff"), api.ErrText},
		{"a text of no characters, and a number", api.Value{Kind: 4, Text: "\xff", Num: api.Dec{Neg: true}}, api.ErrText},
		{"a long text, and a number", api.Value{Kind: 4, Text: long.Text, Num: api.Dec{Neg: true}}, api.ErrLong},
		{"long keys in no order", object([]string{"b", "a", long.Text}, number(1)), api.ErrLong},
		{"too many keys in no order", object(append(keys(5000), "")), api.ErrLong},
		{"a list of too many, and a text", api.Value{Kind: 5, Text: "\xff", List: many(5000, kind)}, api.ErrLong},
		{"a list with a text, ahead of its parts", api.Value{Kind: 5, Text: "\xff", List: []api.Value{kind}}, api.ErrState},
		{"a list of too many, ahead of its parts", list(many(5000, kind)...), api.ErrLong},
		{"an object ahead of its parts", object([]string{"b", "a"}, kind, kind), api.ErrState},
		{"an object's key ahead of its parts", object([]string{"\xff"}, kind), api.ErrText},
		{"parts in their order", list(number(1), state, kind), api.ErrState},
		{"parts in their order", list(long, noText, kind), api.ErrLong},
		{"parts in their order", list(noText, long, state, kind), api.ErrText},
		{"parts in their order", list(kind, noText, long, state), api.ErrKind},
		{"parts in their order", object([]string{"a", "b"}, state, kind), api.ErrState},
		{"a part's parts ahead of the next one", list(list(number(1), list(state)), kind), api.ErrState},
		{"a part's parts ahead of the next one", object([]string{"a", "b"}, object([]string{"c"}, long), noText), api.ErrLong},
		{"the parts of a list behind it", list(list(), list(list()), list(noText), state), api.ErrText},
	} {
		checkCheck(t, c.what, c.v, c.want)
	}
}

// TestP51CheckFaults: faults of all kinds anywhere in values of all kinds.
func TestP51CheckFaults(t *testing.T) {
	d := dice(52)
	met := map[api.Errno]int{}
	for range 20000 {
		v := d.value(4)
		for range 1 + d.next()%3 {
			v = d.spoiled(v)
		}
		want := wantCheck(v)
		met[want]++
		if e := Check(v); e != want {
			t.Fatalf("Check: error %d, not %d: %s", e, want, show(v))
		}
	}
	for _, e := range []api.Errno{api.OK, api.ErrDepth, api.ErrKind, api.ErrText, api.ErrLong, api.ErrState} {
		if met[e] < 100 {
			t.Errorf("error %d came up %d times", e, met[e])
		}
	}
}

// spoiled answers v, in memory of its own, with something else in one of its parts.
func (d *dice) spoiled(v api.Value) api.Value {
	v.List, v.Keys = slices.Clone(v.List), slices.Clone(v.Keys)
	if len(v.List) > 0 && d.next()%4 > 0 {
		i := d.next() % len(v.List)
		v.List[i] = d.spoiled(v.List[i])
		return v
	}
	switch d.next() % 9 {
	case 0:
		v.Kind = d.next()%10 - 1
	case 1:
		v.Num = pick(d, numbersThatMayNotBe())
	case 2:
		v.Text = pick(d, []string{"a", "\xff", times("a", api.MaxText+1)})
	case 3:
		v.List = append(v.List, api.Value{})
	case 4:
		v.Keys = append(v.Keys, pick(d, []string{"a", "\xff", "\U0010ffff"}))
	case 5:
		v = nested(d.next()%80, v, inList, inObject)
	case 6:
		return api.Value{Kind: 4, Text: pick(d, []string{"\xc3", times("\u00e9", api.MaxText/2+1)})}
	case 7:
		return list(many(api.MaxItems+1, api.Value{})...)
	case 8:
		return api.Value{}
	}
	return v
}
