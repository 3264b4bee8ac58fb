package events

import (
	"cmp"
	"slices"
	"sync"
	"testing"
	"unsafe"

	"bolter/api"
	"bolter/value"
)

// piece is a piece of memory.
type piece struct{ from, to uintptr }

func pieceOf[T any](l []T) piece {
	var one T
	from := uintptr(unsafe.Pointer(unsafe.SliceData(l)))
	return piece{from, from + uintptr(cap(l))*unsafe.Sizeof(one)}
}

func pieceOfText(s string) piece {
	return pieceOf(unsafe.Slice(unsafe.StringData(s), len(s)))
}

// pieces answers all memory of lists of values.
func pieces(lists ...[]api.Value) []piece {
	var out []piece
	for _, l := range lists {
		out = append(out, pieceOf(l))
		for _, v := range l {
			out = append(out, pieceOf(v.Num.Coef), pieceOfText(v.Text), pieceOf(v.Keys))
			for _, key := range v.Keys {
				out = append(out, pieceOfText(key))
			}
			out = append(out, pieces(v.List)...)
		}
	}
	return slices.DeleteFunc(out, func(p piece) bool { return p.from == p.to })
}

// checkApart holds that no piece of memory of the answers is another one's, nor one of what was handed in.
func checkApart(t *testing.T, what string, answers, handed []piece) {
	t.Helper()
	byPlace := func(a, b piece) int { return cmp.Compare(a.from, b.from) }
	slices.SortFunc(answers, byPlace)
	for i := 1; i < len(answers); i++ {
		if answers[i].from < answers[i-1].to {
			t.Errorf("%s: two parts of answers share memory", what)
			return
		}
	}
	for _, p := range handed {
		// Those of the answers do not overlap, so that the last one that begins ahead of the end of p ends last of these.
		at, _ := slices.BinarySearchFunc(answers, piece{from: p.to}, byPlace)
		if at > 0 && answers[at-1].to > p.from {
			t.Errorf("%s: an answer shares memory with what was handed in", what)
			return
		}
	}
}

// writable answers a text over octets that may be written over.
func writable(s string) string {
	octets := append(make([]byte, 0, len(s)+3), s...)
	return unsafe.String(unsafe.SliceData(octets), len(octets))
}

// roomy answers values in other memory, with room behind each list, so that what is put behind it would be seen, and texts that may be written over.
func roomy(l []api.Value) []api.Value {
	out := make([]api.Value, 0, len(l)+3)
	for _, v := range l {
		v.Text = writable(v.Text)
		v.Num.Coef = append(make([]uint32, 0, len(v.Num.Coef)+3), v.Num.Coef...)
		keys := make([]string, 0, len(v.Keys)+3)
		for _, key := range v.Keys {
			keys = append(keys, writable(key))
		}
		v.Keys = keys
		v.List = roomy(v.List)
		out = append(out, v)
	}
	return out
}

// untouched tells whether l and all in it is as was, and nothing stands in the room behind.
func untouched(l, was []api.Value) bool {
	whole := func(a, b api.Value) bool {
		fit := a.Kind == b.Kind && a.Text == b.Text && a.Num.Neg == b.Num.Neg && a.Num.Exp == b.Num.Exp
		fit = fit && slices.Equal(a.Num.Coef, b.Num.Coef) && slices.Equal(a.Keys, b.Keys) && untouched(a.List, b.List)
		limbs, keys := a.Num.Coef[len(a.Num.Coef):cap(a.Num.Coef)], a.Keys[len(a.Keys):cap(a.Keys)]
		return fit && !slices.ContainsFunc(limbs, func(n uint32) bool { return n != 0 }) && !slices.ContainsFunc(keys, func(s string) bool { return s != "" })
	}
	return slices.EqualFunc(l[:cap(l)], append(slices.Clone(was), make([]api.Value, cap(l)-len(l))...), whole)
}

// spoil writes over all of what roomy made.
func spoil(l []api.Value) {
	spoilText := func(s string) {
		octets := unsafe.Slice(unsafe.StringData(s), len(s))
		for i := range octets {
			octets[i] = '#'
		}
	}
	spoilWith(l, spoilText)
}

// spoilWith writes over all of l, but for its texts, with which something else may be done.
func spoilWith(l []api.Value, text func(s string)) {
	for _, v := range l {
		spoilWith(v.List, text)
		text(v.Text)
		for i, key := range v.Keys {
			text(key)
			v.Keys[i] = "spoilt"
		}
		for i := range v.Num.Coef {
			v.Num.Coef[i] = 0x5a5a5a5a
		}
	}
	l = l[:cap(l)]
	for i := range l {
		l[i] = api.Value{Kind: 2}
	}
}

// answers is all that the calls tell of values, with a list of its own for each answer.
func answers(l []api.Value) [][]api.Value {
	var out [][]api.Value
	for _, c := range calls() {
		told := c.do(l)
		out = append(out, told.l, []api.Value{num(int(told.e))})
	}
	return out
}

// someHanded does something with what may be handed in. In some of it values share their memory.
func someHanded(do func(l []api.Value)) {
	d := dice(1541)
	key, far := text("shared"), one("123456789012345678901234567890")
	by := list(key, num(1), key)
	do([]api.Value{list(by, key), list(by, far), list(by), list(steps(1, key)), list(list(), key), list(list(), far)})
	do(slices.Repeat([]api.Value{list(list(key), key), list(list(key))}, 3))
	do(slices.Repeat([]api.Value{list(list(num(1), num(1)), far), list(list(far, num(1)))}, 3))
	do([]api.Value{list(by, list()), list(by, object(nil)), list(list(key), list()), list(list(key, num(2)), far), list(list(key))})
	do([]api.Value{list(by, list()), list(by, object(nil)), list(list(key, num(1), key, key), far), list(list(key, num(0)), object(nil)), list(list(key, num(0), text("a")), key), list(list(key))})
	do([]api.Value{list(by, by, object([]string{"a", "b"}, by, far), far, key)})
	do([]api.Value{object([]string{"a", "b"}, list(by, by), list(list(), object(nil)))})
	do([]api.Value{nested(api.MaxDepth, key)})
	do([]api.Value{list()})
	for range 300 {
		do(d.some())
	}
}

// TestP154Arguments: no call changes what is handed in, nor what stands behind it in its memory.
func TestP154Arguments(t *testing.T) {
	someHanded(func(l []api.Value) {
		given := roomy(l)
		answers(given)
		if !untouched(given, l) {
			t.Errorf("%s: was changed: %s", showAll(l), showAll(given))
		}
	})
}

// TestP154Apart: an answer has memory of its own, and so has each list and text in it.
func TestP154Apart(t *testing.T) {
	someHanded(func(l []api.Value) {
		for _, given := range [][]api.Value{l, roomy(l)} {
			told := slices.Concat(answers(given), answers(given))
			checkApart(t, showAll(l), pieces(told...), pieces(given))
		}
	})
}

// TestP154Answers: an answer stays as it is, whatever is done to what was handed in and to all other answers; and it is the same each time.
func TestP154Answers(t *testing.T) {
	someHanded(func(l []api.Value) {
		var want [][]api.Value
		for _, told := range answers(roomy(l)) {
			want = append(want, roomy(told))
		}
		given := roomy(l)
		got := answers(given)
		spoil(given)
		if !slices.EqualFunc(got, want, sameAll) {
			t.Errorf("%s: an answer shares memory with what was handed in", showAll(l))
		}
		for i := range got {
			if !sameAll(got[i], want[i]) {
				t.Errorf("%s: two answers share memory", showAll(l))
			}
			spoilWith(got[i], func(string) {})
		}
		if !slices.EqualFunc(answers(l), want, sameAll) {
			t.Errorf("%s: something is kept that an answer shares", showAll(l))
		}
	})
}

// TestP154Within: one value or event of an answer stays as it is, whatever is done to the others.
func TestP154Within(t *testing.T) {
	someHanded(func(l []api.Value) {
		for _, c := range calls() {
			want := c.do(l)
			for i := range want.l {
				got := c.do(l)
				for j := range got.l {
					if j != i {
						spoilWith(got.l[j:j+1:j+1], func(string) {})
					}
				}
				if !same(got.l[i], want.l[i]) {
					t.Errorf("%s of %s: two parts of an answer share memory", c.name, showAll(l))
				}
			}
		}
	})
}

// TestP1Any: values of any kind come to an end, and are told as the chapter says; beside an error there is nothing.
func TestP1Any(t *testing.T) {
	d := dice(1542)
	for range 4000 {
		l := d.some()
		for range d.below(3) {
			at := d.below(len(l))
			l[at] = d.spoiled(l[at])
		}
		for _, c := range calls() {
			c.check(t, c.want(l), l...)
		}
		if t.Failed() {
			return
		}
	}
}

// TestP1Within: a value that stands within itself is too deep.
func TestP1Within(t *testing.T) {
	within := list(api.Value{})
	within.List[0] = within
	for _, c := range calls() {
		c.check(t, no(api.ErrDepth), within)
		c.check(t, no(api.ErrDepth), list(within, num(1)))
		c.check(t, no(api.ErrDepth), list(list(num(0)), within))
	}
}

// TestP1Nil: nil and empty lists are one.
func TestP1Nil(t *testing.T) {
	empty := func(v api.Value) api.Value {
		v.List, v.Keys, v.Num.Coef = append([]api.Value{}, v.List...), append([]string{}, v.Keys...), append([]uint32{}, v.Num.Coef...)
		return v
	}
	for _, c := range ofEvents() {
		for _, l := range [][]api.Value{nil, {}} {
			c.check(t, c.want(nil), l...)
		}
	}
	for _, leaf := range []api.Value{{}, {Kind: 1}, {Kind: 2}, {Kind: 3}, {Kind: 4}, {Kind: 5}, {Kind: 6}, num(-7), text("a")} {
		to().check(t, to().do(many(1, leaf)), empty(leaf))
		for _, path := range []api.Value{list(), list(num(0)), list(text("")), list(num(1), text("a"))} {
			l := []api.Value{list(path, leaf), list(list(num(0)))}
			full := list(empty(path), empty(leaf))
			for i, step := range path.List {
				full.List[0].List[i] = empty(step)
			}
			for _, c := range ofEvents() {
				c.check(t, c.want(l), empty(full), empty(l[1]))
			}
		}
	}
}

// TestP3Together: what is told hangs on nothing that other calls do at the same time.
func TestP3Together(t *testing.T) {
	d := dice(1543)
	var all sync.WaitGroup
	for range 40 {
		l := []api.Value{d.value(4)}
		if d.below(2) == 0 {
			l = append(d.events(), value.List(one(`[0]`)))
		}
		for _, c := range calls() {
			want := c.want(l)
			for range 4 {
				all.Go(func() { c.check(t, want, l...) })
			}
		}
	}
	all.Wait()
}
