package kinds

import (
	"cmp"
	"slices"
	"strings"
	"sync"
	"testing"
	"unsafe"

	"bolter/api"
	"bolter/value"
)

// piece is a piece of memory.
type piece struct{ from, to uintptr }

func pieceOf[T any](l []T) piece {
	var one T
	from := uintptr(unsafe.Pointer(unsafe.SliceData(l)))
	return piece{from, from + uintptr(cap(l))*unsafe.Sizeof(one)}
}

func pieceOfText(s string) piece {
	from := uintptr(unsafe.Pointer(unsafe.StringData(s)))
	return piece{from, from + uintptr(len(s))}
}

// pieces answers all memory of lists of values.
func pieces(lists ...[]api.Value) []piece {
	var out []piece
	for _, l := range lists {
		out = append(out, pieceOf(l))
		for _, v := range l {
			out = append(out, pieceOf(v.Num.Coef), pieceOfText(v.Text), pieceOf(v.Keys))
			for _, key := range v.Keys {
				out = append(out, pieceOfText(key))
			}
			out = append(out, pieces(v.List)...)
		}
	}
	return slices.DeleteFunc(out, func(p piece) bool { return p.from == p.to })
}

// checkApart holds that no piece of memory of an answer is another one's, nor one of what was handed in.
func checkApart(t *testing.T, what string, answers, handed []piece) {
	t.Helper()
	byPlace := func(a, b piece) int { return cmp.Compare(a.from, b.from) }
	slices.SortFunc(answers, byPlace)
	for i := 1; i < len(answers); i++ {
		if answers[i].from < answers[i-1].to {
			t.Errorf("%s: two parts of answers share memory", what)
			return
		}
	}
	for _, p := range handed {
		// Those of the answers do not overlap, so that the last one that begins ahead of the end of p ends last of these.
		at, _ := slices.BinarySearchFunc(answers, piece{from: p.to}, byPlace)
		if at > 0 && answers[at-1].to > p.from {
			t.Errorf("%s: an answer shares memory with what was handed in", what)
			return
		}
	}
}

// roomy answers l in other memory, with room behind each list, so that what is put behind it would be seen.
func roomy(l []api.Value) []api.Value {
	out := make([]api.Value, 0, len(l)+3)
	for _, v := range l {
		v.Text = strings.Clone(v.Text)
		v.Num.Coef = append(make([]uint32, 0, len(v.Num.Coef)+3), v.Num.Coef...)
		keys := make([]string, 0, len(v.Keys)+3)
		for _, key := range v.Keys {
			keys = append(keys, strings.Clone(key))
		}
		v.Keys = keys
		v.List = roomy(v.List)
		out = append(out, v)
	}
	return out
}

// untouched tells whether l and all in it is as was, and nothing stands in the room behind.
func untouched(l, was []api.Value) bool {
	whole := func(a, b api.Value) bool {
		fit := a.Kind == b.Kind && a.Text == b.Text && a.Num.Neg == b.Num.Neg && a.Num.Exp == b.Num.Exp
		fit = fit && slices.Equal(a.Num.Coef, b.Num.Coef) && slices.Equal(a.Keys, b.Keys) && untouched(a.List, b.List)
		limbs, keys := a.Num.Coef[len(a.Num.Coef):cap(a.Num.Coef)], a.Keys[len(a.Keys):cap(a.Keys)]
		return fit && !slices.ContainsFunc(limbs, func(n uint32) bool { return n != 0 }) && !slices.ContainsFunc(keys, func(s string) bool { return s != "" })
	}
	return slices.EqualFunc(l[:cap(l)], append(slices.Clone(was), make([]api.Value, cap(l)-len(l))...), whole)
}

// spoil writes over all of l.
func spoil(l []api.Value) {
	for _, v := range l {
		spoil(v.List)
		for i := range v.Keys {
			v.Keys[i] = "spoilt"
		}
		for i := range v.Num.Coef {
			v.Num.Coef[i] = 0x5a5a5a5a
		}
	}
	l = l[:cap(l)]
	for i := range l {
		l[i] = api.Value{Kind: 2}
	}
}

// answers is all that the calls tell of values, with a list of its own for each answer.
func answers(l []api.Value) [][]api.Value {
	var out [][]api.Value
	for _, c := range calls() {
		for _, a := range l {
			for _, b := range l {
				told := c.do([]api.Value{a, b}[:c.count]...)
				out = append(out, []api.Value{told.v}, []api.Value{num(int(told.e))})
				if c.count == 1 {
					break
				}
			}
		}
	}
	return out
}

// someHanded does something with what may be handed in. In some of it values share their memory.
func someHanded(do func(l []api.Value)) {
	d := dice(1251)
	shared := list(num(123456789), text("shared"), object([]string{"a", "b"}, text("x"), list(num(5))))
	do([]api.Value{shared, list(shared, shared), shared.List[2], object([]string{"b", "c"}, shared, shared)})
	entry := object([]string{"key", "value"}, text("shared"), shared)
	do([]api.Value{list(entry), list(entry, entry), entry, list(list(shared, shared), list(entry))})
	do([]api.Value{text("abc"), text("[1,[\"a\",{\"b\":2}]]"), text("123456789012345678901234567890"), one("-123456789012345678901234567890")})
	do([]api.Value{list(object([]string{"k", "v"}, num(123456789), num(7)), object([]string{"name"}, value.Bool(true)))})
	do([]api.Value{list(), list(list(), list(num(7))), {}, object(nil)})
	for range 60 {
		do(d.some(1))
		do(d.some(2))
		do([]api.Value{d.value(4), d.lists(), d.list(4)})
	}
}

// TestP125Arguments: no call changes what is handed in, nor what stands behind it in its memory.
func TestP125Arguments(t *testing.T) {
	someHanded(func(l []api.Value) {
		given := roomy(l)
		answers(given)
		if !untouched(given, l) {
			t.Errorf("%s: was changed: %s", showAll(l...), showAll(given...))
		}
	})
}

// TestP125Apart: an answer has memory of its own, and so has each list in it.
func TestP125Apart(t *testing.T) {
	someHanded(func(l []api.Value) {
		for _, given := range [][]api.Value{l, roomy(l)} {
			told := slices.Concat(answers(given), answers(given))
			checkApart(t, showAll(l...), pieces(told...), pieces(given))
		}
	})
}

// TestP125Answers: an answer stays as it is, whatever is done to what was handed in and to all other answers; and it is the same each time.
func TestP125Answers(t *testing.T) {
	alike := func(a, b []api.Value) bool { return slices.EqualFunc(a, b, same) }
	someHanded(func(l []api.Value) {
		var want [][]api.Value
		for _, told := range answers(roomy(l)) {
			want = append(want, roomy(told))
		}
		given := roomy(l)
		got := answers(given)
		spoil(given)
		if !slices.EqualFunc(got, want, alike) {
			t.Errorf("%s: an answer shares memory with what was handed in", showAll(l...))
		}
		for i := range got {
			if !alike(got[i], want[i]) {
				t.Errorf("%s: two answers share memory", showAll(l...))
			}
			spoil(got[i])
		}
		if !slices.EqualFunc(answers(l), want, alike) {
			t.Errorf("%s: something is kept that an answer shares", showAll(l...))
		}
	})
}

// TestP1Any: values of any kind come to an end; what may not be is told by its error, and beside an error there is nothing.
func TestP1Any(t *testing.T) {
	d := dice(1252)
	within := list(api.Value{})
	within.List[0] = within
	for n := range 5000 {
		for _, c := range calls() {
			l := d.some(c.count)
			if n%500 == 0 {
				l[d.below(len(l))] = within
			}
			for range d.below(3) {
				at := d.below(len(l))
				if value.Deep(l[at]) < 100 {
					l[at] = d.spoiled(l[at])
				}
			}
			got, want := c.do(l...), check(l...)
			if want != api.OK && got.e != want || got.e != api.OK && !same(got.v, api.Value{}) || value.Check(got.v) != api.OK {
				t.Errorf("%s of %s: %s, not error %d", c.name, showAll(l...), got.show(), want)
			}
		}
	}
}

// TestP1Nil: nil and empty lists are one.
func TestP1Nil(t *testing.T) {
	empty := func(v api.Value) api.Value {
		v.List, v.Keys, v.Num.Coef = append([]api.Value{}, v.List...), append([]string{}, v.Keys...), append([]uint32{}, v.Num.Coef...)
		return v
	}
	for _, a := range append(kinds(), api.Value{Kind: 3}, list(api.Value{Kind: 5}), list(object([]string{"k"}, text("a")))) {
		for _, b := range kinds() {
			for _, c := range calls() {
				c.check(t, c.do([]api.Value{a, b}[:c.count]...), []api.Value{empty(a), empty(b)}[:c.count]...)
				c.check(t, c.do([]api.Value{list(a), b}[:c.count]...), []api.Value{list(empty(a)), b}[:c.count]...)
			}
		}
	}
}

// TestP3Together: what is told hangs on nothing that other calls do at the same time.
func TestP3Together(t *testing.T) {
	var l [][]api.Value
	someHanded(func(given []api.Value) { l = append(l, given) })
	var all sync.WaitGroup
	for _, given := range l[:40] {
		want := slices.Concat(answers(given)...)
		for range 4 {
			all.Go(func() {
				if !slices.EqualFunc(slices.Concat(answers(given)...), want, same) {
					t.Error("calls at the same time tell another thing")
				}
			})
		}
	}
	all.Wait()
}
