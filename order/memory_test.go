package order

import (
	"cmp"
	"slices"
	"testing"
	"unsafe"

	"bolter/api"
	"bolter/value"
)

// span is a piece of memory.
type span struct{ from, to uintptr }

func spanOf[T any](l []T) span {
	var one T
	from := uintptr(unsafe.Pointer(unsafe.SliceData(l)))
	return span{from, from + uintptr(cap(l))*unsafe.Sizeof(one)}
}

func spanOfText(s string) span {
	from := uintptr(unsafe.Pointer(unsafe.StringData(s)))
	return span{from, from + uintptr(len(s))}
}

// spans answers all memory of lists of values.
func spans(lists ...[]api.Value) []span {
	var out []span
	for _, l := range lists {
		out = append(out, spanOf(l))
		for _, v := range l {
			out = append(out, spanOf(v.Num.Coef), spanOfText(v.Text), spanOf(v.Keys))
			for _, key := range v.Keys {
				out = append(out, spanOfText(key))
			}
			out = append(out, spans(v.List)...)
		}
	}
	return slices.DeleteFunc(out, func(s span) bool { return s.from == s.to })
}

// checkApart holds that no piece of memory of an answer is another one's, nor one of what was handed in.
func checkApart(t *testing.T, answers, handed []span) {
	t.Helper()
	byPlace := func(a, b span) int { return cmp.Compare(a.from, b.from) }
	slices.SortFunc(answers, byPlace)
	for i := 1; i < len(answers); i++ {
		if answers[i].from < answers[i-1].to {
			t.Error("two parts of answers share memory")
			return
		}
	}
	for _, s := range handed {
		// Those of the answers do not overlap, so that the last one that begins ahead of s ends last of these.
		at, _ := slices.BinarySearchFunc(answers, span{from: s.to}, byPlace)
		if at > 0 && answers[at-1].to > s.from {
			t.Error("an answer shares memory with what was handed in")
			return
		}
	}
}

// roomy answers l in other memory, with room behind each list, so that what is put behind it would be seen.
func roomy(l []api.Value) []api.Value {
	out := make([]api.Value, 0, len(l)+3)
	for _, v := range l {
		v.Num.Coef = append(make([]uint32, 0, len(v.Num.Coef)+3), v.Num.Coef...)
		v.Keys = append(make([]string, 0, len(v.Keys)+3), v.Keys...)
		v.List = roomy(v.List)
		out = append(out, v)
	}
	return out
}

// untouched tells whether l and all in it is as was, in its order, and nothing stands in the room behind.
func untouched(l, was []api.Value) bool {
	same := func(a, b api.Value) bool {
		fit := a.Kind == b.Kind && a.Text == b.Text && a.Num.Neg == b.Num.Neg && a.Num.Exp == b.Num.Exp
		fit = fit && slices.Equal(a.Num.Coef, b.Num.Coef) && slices.Equal(a.Keys, b.Keys) && untouched(a.List, b.List)
		limbs, keys := a.Num.Coef[len(a.Num.Coef):cap(a.Num.Coef)], a.Keys[len(a.Keys):cap(a.Keys)]
		return fit && !slices.ContainsFunc(limbs, func(n uint32) bool { return n != 0 }) && !slices.ContainsFunc(keys, func(s string) bool { return s != "" })
	}
	return slices.EqualFunc(l[:cap(l)], append(slices.Clone(was), make([]api.Value, cap(l)-len(l))...), same)
}

// spoil writes over all of l.
func spoil(l []api.Value) {
	for _, v := range l {
		spoil(v.List)
		for i := range v.Keys {
			v.Keys[i] = "spoilt"
		}
		for i := range v.Num.Coef {
			v.Num.Coef[i] = 0x5a5a5a5a
		}
	}
	l = l[:cap(l)]
	for i := range l {
		l[i] = api.Value{Kind: 2}
	}
}

// told is all that the calls answer of a list with its keys.
type told struct {
	lists  [][]api.Value
	places []int
}

func tell(l, keys []api.Value) told {
	sorted, _ := Sort(l)
	by, _ := SortBy(l, keys)
	unique, _ := UniqueBy(l, keys)
	groups, _ := GroupBy(l, keys)
	index, _ := Index(l, keys[0])
	least, _ := Least(l, keys)
	most, _ := Most(l, keys)
	first, _, _ := Search(l[:1], keys[0])
	return told{append(groups, sorted, by, unique), append(index, least, most, first)}
}

func (a told) is(b told) bool {
	return sameLists(a.lists, b.lists) && slices.Equal(a.places, b.places)
}

// own answers what was told in other memory.
func (a told) own() told {
	out := told{nil, slices.Clone(a.places)}
	for _, l := range a.lists {
		out.lists = append(out.lists, value.List(l...).List)
	}
	return out
}

// someItems gives lists with keys. In some of them values share their memory.
func someItems(do func(l, keys []api.Value)) {
	d := dice(65)
	all := someValues()
	do(all, all)
	do(all, many(len(all), number(1)))
	do(many(9, list(number(1), text("a"))), numbers(1, 2, 3, 1, 2, 3, 1, 2, 3))
	for range 200 {
		n := 1 + d.below(20)
		do(some(&d, n, all), some(&d, n, some(&d, 3, all)))
	}
}

// TestP64Arguments: no call changes what is handed in, nor what stands behind it in its memory, nor the order.
func TestP64Arguments(t *testing.T) {
	someItems(func(l, keys []api.Value) {
		x, y := roomy(l), roomy(keys)
		tell(x, y)
		if !untouched(x, l) || !untouched(y, keys) {
			t.Errorf("%s by %s was changed: %s by %s", show(l), show(keys), show(x), show(y))
		}
		v := roomy(keys[:1])
		Search(x, v[0])
		Index(x, v[0])
		SortBy(x, y[1:])
		GroupBy(x[1:], y)
		sorted, _ := Sort(x)
		ordered := roomy(sorted)
		Search(ordered, v[0])
		if !untouched(x, l) || !untouched(y, keys) || !untouched(v, keys[:1]) || !untouched(ordered, sorted) {
			t.Errorf("%s by %s was changed: %s by %s", show(l), show(keys), show(x), show(y))
		}
	})
}

// TestP64Apart: an answer has memory of its own, and so has each list in it.
func TestP64Apart(t *testing.T) {
	someItems(func(l, keys []api.Value) {
		x, y := roomy(l), roomy(keys)
		once, again := tell(x, y), tell(x, y)
		checkApart(t, append(spans(once.lists...), spans(again.lists...)...), spans(x, y))
		shared := tell(l, keys)
		checkApart(t, spans(shared.lists...), spans(l, keys))
		a, _ := Index(x, y[0])
		b, _ := Index(x, y[0])
		both := slices.DeleteFunc([]span{spanOf(a), spanOf(b)}, func(s span) bool { return s.from == s.to })
		checkApart(t, both, nil)
	})
}

// TestP64Answers: an answer stays as it is, whatever is done to the arguments and to all other answers; and it is the same each time.
func TestP64Answers(t *testing.T) {
	someItems(func(l, keys []api.Value) {
		x, y := roomy(l), roomy(keys)
		want := tell(x, y).own()
		got := tell(x, y)
		spoil(x)
		spoil(y)
		if !got.is(want) {
			t.Errorf("%s by %s: an answer shares memory with what was handed in", show(l), show(keys))
		}
		for i := range got.lists {
			if !sameList(got.lists[i], want.lists[i]) {
				t.Errorf("%s by %s: two lists of an answer share memory", show(l), show(keys))
			}
			spoil(got.lists[i])
		}
		if !tell(roomy(l), roomy(keys)).is(want) {
			t.Errorf("%s by %s: something is kept that an answer shares", show(l), show(keys))
		}
	})
}
