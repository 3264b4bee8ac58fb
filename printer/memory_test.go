package printer

import (
	"cmp"
	"slices"
	"strings"
	"sync"
	"testing"
	"unsafe"

	"bolter/api"
	"bolter/value"
)

// span is a piece of memory.
type span struct{ from, to uintptr }

func spanOf(s string) span {
	from := uintptr(unsafe.Pointer(unsafe.StringData(s)))
	return span{from, from + uintptr(len(s))}
}

// textsOf answers the memory of all texts of v.
func textsOf(v api.Value) []span {
	out := []span{spanOf(v.Text)}
	for _, key := range v.Keys {
		out = append(out, spanOf(key))
	}
	for _, part := range v.List {
		out = append(out, textsOf(part)...)
	}
	return out
}

// checkApart holds that no piece of memory of the answers is another one's, nor one of those that were handed in.
func checkApart(t *testing.T, what any, answers []string, handed []span) {
	t.Helper()
	var own []span
	for _, s := range answers {
		own = append(own, spanOf(s))
	}
	empty := func(s span) bool { return s.from == s.to }
	own, handed = slices.DeleteFunc(own, empty), slices.DeleteFunc(handed, empty)
	slices.SortFunc(own, func(a, b span) int { return cmp.Compare(a.from, b.from) })
	for i, s := range own {
		if i > 0 && own[i-1].to > s.from || slices.ContainsFunc(handed, func(h span) bool { return h.from < s.to && s.from < h.to }) {
			t.Errorf("%s: memory is shared", show(what))
			return
		}
	}
}

// roomy answers v in other memory, with room behind each list, so that what is put behind it would be seen.
func roomy(v api.Value) api.Value {
	v.Text = strings.Clone(v.Text)
	v.Num.Coef = append(make([]uint32, 0, len(v.Num.Coef)+3), v.Num.Coef...)
	k := make([]string, 0, len(v.Keys)+3)
	for _, key := range v.Keys {
		k = append(k, strings.Clone(key))
	}
	l := make([]api.Value, 0, len(v.List)+3)
	for _, part := range v.List {
		l = append(l, roomy(part))
	}
	v.Keys, v.List = k, l
	return v
}

// untouched tells whether nothing stands in the room behind v's lists.
func untouched(v api.Value) bool {
	touched := slices.ContainsFunc(v.Num.Coef[len(v.Num.Coef):cap(v.Num.Coef)], func(limb uint32) bool { return limb != 0 }) ||
		slices.ContainsFunc(v.Keys[len(v.Keys):cap(v.Keys)], func(key string) bool { return key != "" }) ||
		slices.ContainsFunc(v.List[len(v.List):cap(v.List)], func(part api.Value) bool { return !same(part, api.Value{}) })
	return !touched && !slices.ContainsFunc(v.List, func(part api.Value) bool { return !untouched(part) })
}

// spoil writes over all of v's lists.
func spoil(v api.Value) {
	for _, part := range v.List {
		spoil(part)
	}
	clear(v.List)
	clear(v.Keys)
	clear(v.Num.Coef)
}

// answers calls everything that prints, and Width.
func answers(l []api.Value) []string {
	out := []string{}
	for _, v := range l {
		for n := -1; n <= 2; n++ {
			indented, _ := Indent(v, n)
			lines, _ := Lines(l, n)
			Width(v, n)
			out = append(out, indented, lines)
		}
		compact, _ := Compact(v)
		ascii, _ := ASCII(v)
		quoted, _ := Quote(v.Text)
		out = append(out, compact, ascii, quoted)
	}
	return out
}

// eachList does something with lists of values, some of which may not be.
func eachList(do func(l []api.Value)) {
	l := someValues()
	l = slices.DeleteFunc(l, func(v api.Value) bool { return value.Size(v) > 1000 })
	for i, v := range l {
		do([]api.Value{v, l[(i*7+3)%len(l)]})
	}
	d := dice(99)
	for range 300 {
		do([]api.Value{d.value(4), d.spoiled(d.value(4))})
	}
}

// spoiled answers v with something at one place of it that its kind may not have.
func (d *dice) spoiled(v api.Value) api.Value {
	if len(v.List) > 0 && d.below(3) > 0 {
		v.List = slices.Clone(v.List)
		at := d.below(len(v.List))
		v.List[at] = d.spoiled(v.List[at])
		return v
	}
	switch d.below(6) {
	case 0:
		v.Kind = d.below(12) - 3
	case 1:
		v.Text += pick(d, []string{"a", "\xff", "\u00e9", "\xc3"})
	case 2:
		v.Keys = append(slices.Clone(v.Keys), pick(d, someTexts()))
	case 3:
		v.List = append(slices.Clone(v.List), number(d.below(3)))
	case 4:
		v.Num.Exp += d.below(3) - 1
	case 5:
		v.Num.Coef = append(slices.Clone(v.Num.Coef), uint32(d.below(3)))
	}
	return v
}

// TestP94Arguments: what is handed in stays as it is, with what stands behind it in its memory.
func TestP94Arguments(t *testing.T) {
	eachList(func(l []api.Value) {
		was, handed := roomy(list(l...)), roomy(list(l...))
		answers(handed.List)
		if !same(handed, was) || !untouched(handed) {
			t.Errorf("%s was changed: %s", show(was), show(handed))
		}
	})
}

// TestP94Answers: an answer has memory of its own, and stays as it is, whatever is done to what was handed in.
func TestP94Answers(t *testing.T) {
	eachList(func(l []api.Value) {
		want := answers(l)
		handed := roomy(list(l...))
		got := answers(handed.List)
		checkApart(t, l, slices.Concat(got, want), slices.Concat(textsOf(handed), textsOf(list(l...))))
		spoil(handed)
		if !slices.Equal(got, want) {
			t.Errorf("%s: what is told hangs on what was handed in, or is not the same twice", show(l))
		}
	})
}

// TestP94Quote: a text and what is told of it share nothing, and what stands behind it in its memory is not looked at.
func TestP94Quote(t *testing.T) {
	for _, s := range append(someTexts(), times("a", 100000)) {
		whole := s + `"\` + "\x01\xff"
		handed := whole[:len(s)]
		once, e := Quote(handed)
		again, _ := Quote(handed)
		checkText(t, "Quote", s, once, e, wantText(s), api.OK)
		checkApart(t, s, []string{once, again}, []span{spanOf(whole)})
	}
}

// TestP1Any: values of any kind come to an end; one that may be is told by all calls that can tell it, of another none tells anything.
func TestP1Any(t *testing.T) {
	d := dice(100)
	for range 20000 {
		v := d.value(3)
		for range d.below(3) {
			v = d.spoiled(v)
		}
		e := value.Check(v)
		for n := -2; n < 11; n++ {
			wantE := e
			if e == api.OK && (n < 0 || n > 8) {
				wantE = api.ErrRange
			}
			want := ""
			if wantE == api.OK {
				want = wantIndent(v, n)
			}
			checkIndent(t, v, n, want, wantE)
		}
		ascii, f := ASCII(v)
		if f != e || (e == api.OK) != (ascii != "") {
			t.Errorf("ASCII of %s: %s, error %d, not %d", show(v), show(ascii), f, e)
		}
		if t.Failed() {
			return
		}
	}
}

// TestP3Together: what is told hangs on nothing that other calls do at the same time.
func TestP3Together(t *testing.T) {
	d := dice(101)
	var l []api.Value
	for range 20 {
		l = append(l, d.value(5))
	}
	want := answers(l)
	var all sync.WaitGroup
	for range 8 {
		all.Go(func() {
			if !slices.Equal(answers(l), want) {
				t.Error("calls at the same time tell another thing")
			}
		})
	}
	all.Wait()
}
