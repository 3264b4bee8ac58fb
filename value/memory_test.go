package value

import (
	"cmp"
	"slices"
	"testing"
	"unsafe"

	"bolter/api"
)

// span is a piece of memory.
type span struct{ from, to uintptr }

func spanOf[T any](l []T) span {
	var one T
	from := uintptr(unsafe.Pointer(unsafe.SliceData(l)))
	return span{from, from + uintptr(cap(l))*unsafe.Sizeof(one)}
}

func spanOfText(s string) span {
	from := uintptr(unsafe.Pointer(unsafe.StringData(s)))
	return span{from, from + uintptr(len(s))}
}

// spans answers all memory that v has, but for itself.
func spans(v api.Value) []span {
	out := []span{spanOf(v.Num.Coef), spanOfText(v.Text), spanOf(v.List), spanOf(v.Keys)}
	for _, key := range v.Keys {
		out = append(out, spanOfText(key))
	}
	for _, part := range v.List {
		out = append(out, spans(part)...)
	}
	return slices.DeleteFunc(out, func(s span) bool { return s.from == s.to })
}

// checkApart holds that no piece of memory of an answer is another one's, nor one of what was handed in.
func checkApart(t *testing.T, what string, answers []api.Value, handed ...api.Value) {
	t.Helper()
	type owned struct {
		span
		answer bool
	}
	var all []owned
	for _, v := range answers {
		for _, s := range spans(v) {
			all = append(all, owned{s, true})
		}
	}
	for _, v := range handed {
		for _, s := range spans(v) {
			all = append(all, owned{s, false})
		}
	}
	slices.SortFunc(all, func(a, b owned) int { return cmp.Compare(a.from, b.from) })
	last := owned{}
	lastAnswer := owned{}
	for _, s := range all {
		if s.from < lastAnswer.to || s.answer && s.from < last.to {
			t.Errorf("%s: memory is shared", what)
			return
		}
		if s.to > last.to {
			last = s
		}
		if s.answer {
			lastAnswer = s
		}
	}
}

// roomy answers v in other memory, with room behind each list, so that what is put behind it would be seen.
func roomy(v api.Value) api.Value {
	v.Num.Coef = append(make([]uint32, 0, len(v.Num.Coef)+4), v.Num.Coef...)
	v.Keys = append(make([]string, 0, len(v.Keys)+4), v.Keys...)
	l := make([]api.Value, 0, len(v.List)+4)
	for _, part := range v.List {
		l = append(l, roomy(part))
	}
	v.List = l
	return v
}

// untouched tells whether nothing stands in the room behind v's lists.
func untouched(v api.Value) bool {
	for _, limb := range v.Num.Coef[len(v.Num.Coef):cap(v.Num.Coef)] {
		if limb != 0 {
			return false
		}
	}
	for _, key := range v.Keys[len(v.Keys):cap(v.Keys)] {
		if key != "" {
			return false
		}
	}
	for _, part := range v.List[len(v.List):cap(v.List)] {
		if !same(part, api.Value{}) {
			return false
		}
	}
	return !slices.ContainsFunc(v.List, func(part api.Value) bool { return !untouched(part) })
}

// spoil writes over all of v's lists.
func spoil(v api.Value) {
	for _, part := range v.List {
		spoil(part)
	}
	l, k, c := v.List[:cap(v.List)], v.Keys[:cap(v.Keys)], v.Num.Coef[:cap(v.Num.Coef)]
	for i := range l {
		l[i] = api.Value{Kind: 9, Text: "spoilt"}
	}
	for i := range k {
		k[i] = "spoilt"
	}
	for i := range c {
		c[i] = 0x5a5a5a5a
	}
}

// answers calls everything that hands out values.
func answers(a, b api.Value) []api.Value {
	object, _ := Object([]string{"b", "a", "b"}, []api.Value{a, b, b})
	both, _ := Object([]string{"x" + a.Text, "w" + b.Text}, []api.Value{a, a})
	got, _ := Get(api.Value{Kind: 6, Keys: []string{"a", "b"}, List: []api.Value{a, b}}, "b")
	out := []api.Value{object, both, got, List(a, b, a), List(List(b)), Text(a.Text), Number(12345678901), Number(0), Bool(true)}
	for _, key := range a.Keys {
		got, _ := Get(a, key)
		out = append(out, got)
	}
	return out
}

// somePairs gives pairs of values, some of which may not be.
func somePairs(do func(a, b api.Value)) {
	l := someValues()
	for i, a := range l {
		do(a, l[(i*7+3)%len(l)])
		do(a, a)
	}
	d := dice(57)
	for range 500 {
		do(d.value(4), d.value(3))
		do(d.spoiled(d.value(3)), d.spoiled(d.value(3)))
	}
}

// TestP54Arguments: no call changes what is handed in, nor what stands behind it in its memory.
func TestP54Arguments(t *testing.T) {
	somePairs(func(a, b api.Value) {
		x, y := roomy(a), roomy(b)
		answers(x, y)
		Check(x)
		Compare(x, y)
		Compare(x, x)
		Deep(x)
		Size(x)
		True(x)
		for _, c := range [][2]api.Value{{x, a}, {y, b}} {
			if !same(c[0], c[1]) || !untouched(c[0]) {
				t.Errorf("%s was changed: %s", show(c[1]), show(c[0]))
			}
		}
	})
}

// TestP54Lists: the lists of keys and of values that are handed in stay as they are, in their order.
func TestP54Lists(t *testing.T) {
	named := append(make([]string, 0, 9), "b", "a", "b", "")
	l := append(make([]api.Value, 0, 9), number(1), list(number(2)), text("c"), number(4))
	want := list(slices.Clone(l)...)
	v, _ := Object(named, l)
	w := List(l...)
	if !slices.Equal(named[:cap(named)], []string{"b", "a", "b", "", "", "", "", "", ""}) || !same(list(l...), want) {
		t.Error("what was handed in was changed:", named, show(list(l...)))
	}
	checkApart(t, "Object and List", []api.Value{v, w}, api.Value{List: l, Keys: named})
	for i := range l {
		l[i], named[i] = text("other"), "other"
	}
	checkValue(t, "Object, behind a change", v, api.OK, object([]string{"", "a", "b"}, number(4), list(number(2)), text("c")), api.OK)
	checkValue(t, "List, behind a change", w, api.OK, want, api.OK)
}

// TestP54Answers: an answer has memory of its own, and stays as it is, whatever is done to the arguments and to all other answers.
func TestP54Answers(t *testing.T) {
	somePairs(func(a, b api.Value) {
		want := answers(roomy(a), roomy(b))
		x, y := roomy(a), roomy(b)
		got := answers(x, y)
		checkApart(t, show(a)+" and "+show(b), slices.Concat(got, want), x, y)
		spoil(x)
		spoil(y)
		for i := range got {
			if !same(got[i], want[i]) {
				t.Errorf("answer %d of %s, %s: it shares memory, or is not the same twice", i, show(a), show(b))
			}
			spoil(got[i])
		}
		for i, v := range answers(a, b) {
			if !same(v, want[i]) {
				t.Errorf("answer %d of %s, %s: something is kept that an answer shares", i, show(a), show(b))
			}
		}
	})
}
