package format

import (
	"cmp"
	"slices"
	"strings"
	"sync"
	"testing"
	"unsafe"

	"bolter/api"
)

// piece is a piece of memory.
type piece struct{ from, to uintptr }

func pieceOf[T any](l []T) piece {
	var one T
	from := uintptr(unsafe.Pointer(unsafe.SliceData(l)))
	return piece{from, from + uintptr(cap(l))*unsafe.Sizeof(one)}
}

func pieceOfText(s string) piece {
	return pieceOf(unsafe.Slice(unsafe.StringData(s), len(s)))
}

// piecesOfTexts answers all memory of texts, and of the list that they stand in.
func piecesOfTexts(l []string) []piece {
	out := []piece{pieceOf(l)}
	for _, s := range l {
		out = append(out, pieceOfText(s))
	}
	return out
}

// piecesOf answers all memory of values.
func piecesOf(l ...api.Value) []piece {
	out := []piece{pieceOf(l)}
	for _, v := range l {
		out = append(out, pieceOf(v.Num.Coef), pieceOfText(v.Text))
		out = append(out, piecesOfTexts(v.Keys)...)
		out = append(out, piecesOf(v.List...)...)
	}
	return out
}

// checkApart holds that no piece of memory of the answers is another one's, nor one of what was handed in.
func checkApart(t *testing.T, what string, answers, handed []piece) {
	t.Helper()
	empty := func(p piece) bool { return p.from == p.to }
	answers, handed = slices.DeleteFunc(answers, empty), slices.DeleteFunc(handed, empty)
	slices.SortFunc(answers, func(a, b piece) int { return cmp.Compare(a.from, b.from) })
	for i, p := range answers {
		if i > 0 && answers[i-1].to > p.from || slices.ContainsFunc(handed, func(h piece) bool { return h.from < p.to && p.from < h.to }) {
			t.Errorf("%s: memory is shared", what)
			return
		}
	}
}

// writable answers a text over octets that may be written over.
func writable(s string) string {
	octets := append(make([]byte, 0, len(s)+3), s...)
	return unsafe.String(unsafe.SliceData(octets), len(octets))
}

// roomy answers values in other memory, with room behind each list, so that what is put behind it would be seen, and texts that may be written over.
func roomy(l []api.Value) []api.Value {
	out := make([]api.Value, 0, len(l)+3)
	for _, v := range l {
		v.Text = writable(v.Text)
		v.Num.Coef = append(make([]uint32, 0, len(v.Num.Coef)+3), v.Num.Coef...)
		keys := make([]string, 0, len(v.Keys)+3)
		for _, key := range v.Keys {
			keys = append(keys, writable(key))
		}
		v.Keys = keys
		v.List = roomy(v.List)
		out = append(out, v)
	}
	return out
}

// untouched tells whether l and all in it is as was, and nothing stands in the room behind.
func untouched(l, was []api.Value) bool {
	whole := func(a, b api.Value) bool {
		fit := a.Kind == b.Kind && a.Text == b.Text && a.Num.Neg == b.Num.Neg && a.Num.Exp == b.Num.Exp
		fit = fit && slices.Equal(a.Num.Coef, b.Num.Coef) && slices.Equal(a.Keys, b.Keys) && untouched(a.List, b.List)
		limbs, keys := a.Num.Coef[len(a.Num.Coef):cap(a.Num.Coef)], a.Keys[len(a.Keys):cap(a.Keys)]
		return fit && !slices.ContainsFunc(limbs, func(n uint32) bool { return n != 0 }) && !slices.ContainsFunc(keys, func(s string) bool { return s != "" })
	}
	return slices.EqualFunc(l[:cap(l)], append(slices.Clone(was), make([]api.Value, cap(l)-len(l))...), whole)
}

// spoil writes over all of what roomy made.
func spoil(l []api.Value) {
	spoilText := func(s string) {
		octets := unsafe.Slice(unsafe.StringData(s), len(s))
		for i := range octets {
			octets[i] = '#'
		}
	}
	for _, v := range l {
		spoil(v.List)
		spoilText(v.Text)
		for i, key := range v.Keys {
			spoilText(key)
			v.Keys[i] = "spoilt"
		}
		for i := range v.Num.Coef {
			v.Num.Coef[i] = 0x5a5a5a5a
		}
	}
	l = l[:cap(l)]
	for i := range l {
		l[i] = api.Value{Kind: 2}
	}
}

// eachHanded does something with each call and what may be handed in to it.
func eachHanded(do func(c call, v api.Value)) {
	d := dice(1451)
	for _, c := range calls() {
		for _, s := range append(someTexts(), times("a", most), times("a", most+1), times("YWI=", 9), "a\xff") {
			do(c, text(s))
			do(c, list(text(s), text(s)))
		}
		shared := one(`{"a":"shared","b":[123456789]}`)
		do(c, list(shared, shared))
		do(c, shared)
		do(c, list(shared.List[0], shared.List[0], num(7), shared.List[1].List[0]))
		do(c, one("-123456789012345678901234567890"))
		for range 300 {
			do(c, d.handed(c))
		}
	}
}

// TestP145Arguments: no call changes what is handed in, nor what stands behind it in its memory.
func TestP145Arguments(t *testing.T) {
	eachHanded(func(c call, v api.Value) {
		given := roomy([]api.Value{v})
		c.do(given[0])
		if !untouched(given, []api.Value{v}) {
			t.Errorf("%s of %s: was changed: %s", c.name, show(v), show(given[0]))
		}
	})
}

// TestP145Apart: an answer has memory of its own.
func TestP145Apart(t *testing.T) {
	eachHanded(func(c call, v api.Value) {
		given := roomy([]api.Value{v})[0]
		answers := []string{c.told(given).text, c.told(given).text, c.told(v).text}
		var own []piece
		for _, s := range answers {
			own = append(own, pieceOfText(s))
		}
		checkApart(t, c.name+" of "+show(v), own, append(piecesOf(given), piecesOf(v)...))
	})
}

// TestP145Answers: an answer stays as it is, whatever is done to what was handed in; and it is the same each time.
func TestP145Answers(t *testing.T) {
	eachHanded(func(c call, v api.Value) {
		first := c.told(v)
		want := told{strings.Clone(first.text), first.e}
		given := roomy([]api.Value{v})
		got := c.told(given[0])
		spoil(given)
		if got != want || first != want {
			t.Errorf("%s of %s: hangs on what it was told of: %s", c.name, show(v), got.show())
		}
		c.check(t, want, v)
	})
}

// TestP145ApplyName: Apply keeps and tells nothing of the name that it is handed.
func TestP145ApplyName(t *testing.T) {
	for _, name := range append(allNames(), "none") {
		for _, v := range []api.Value{text("YWI="), list(num(1)), num(1234)} {
			want := apply(name).told(v)
			given := roomy([]api.Value{text(name)})
			got := apply(given[0].Text).told(v)
			checkApart(t, name, []piece{pieceOfText(got.text)}, []piece{pieceOfText(given[0].Text)})
			if given[0].Text != name || got != want {
				t.Errorf("%s of %s: %s", name, show(v), got.show())
			}
			spoil(given)
			apply(name).check(t, want, v)
		}
	}
}

// TestP145Names: each list of names, and each name of it, has memory of its own.
func TestP145Names(t *testing.T) {
	first, second := Names(), Names()
	checkApart(t, "Names", append(piecesOfTexts(first), piecesOfTexts(second)...), nil)
	for i := range first {
		first[i] = "spoilt"
	}
	if !slices.Equal(second, allNames()) || !slices.Equal(Names(), allNames()) {
		t.Errorf("names that were told change: %q, %q", second, Names())
	}
	for _, name := range allNames() {
		if _, e := Apply(name, list()); e == api.ErrName {
			t.Errorf("no name any more: %s", name)
		}
	}
}

// TestP1Nil: nil and empty lists are one.
func TestP1Nil(t *testing.T) {
	empty := func(v api.Value) api.Value {
		v.List, v.Keys, v.Num.Coef = append([]api.Value{}, v.List...), append([]string{}, v.Keys...), append([]uint32{}, v.Num.Coef...)
		return v
	}
	for _, v := range []api.Value{{}, {Kind: 1}, {Kind: 2}, {Kind: 3}, {Kind: 4}, {Kind: 5}, {Kind: 6}, num(-7), text("YWI="), list(num(0)), object([]string{"a"}, num(1))} {
		for _, c := range calls() {
			c.check(t, c.told(v), empty(v))
			c.check(t, c.told(list(v)), list(empty(v)))
		}
	}
}

// spoiled answers v, in other lists, with something at one place of it that its kind may not have.
func (d *dice) spoiled(v api.Value) api.Value {
	v.List, v.Keys = slices.Clone(v.List), slices.Clone(v.Keys)
	if len(v.List) > 0 && d.below(3) > 0 {
		at := d.below(len(v.List))
		v.List[at] = d.spoiled(v.List[at])
		return v
	}
	switch d.below(6) {
	case 0:
		v.Kind = d.below(12) - 3
	case 1:
		v.Text += pick(d, []string{"a", "\xff", "\u00e9", "\xc3"})
	case 2:
		v.Keys = append(v.Keys, "a")
	case 3:
		v.List = append(v.List, num(d.below(3)))
	case 4:
		v.Num.Exp += d.below(3) - 1
	case 5:
		v.Num.Coef = append(slices.Clone(v.Num.Coef), uint32(d.below(3)))
	}
	return v
}

// TestP1Any: values and octets of any kind come to an end; beside an error there is nothing.
func TestP1Any(t *testing.T) {
	d := dice(1452)
	octets := func() api.Value {
		out := make([]byte, d.below(12))
		for i := range out {
			out[i] = pick(&d, []byte("aA+/=&<'\", \n\x00\x7f\x80\x9f\xa0\xa9\xbf\xc0\xc3\xe2\xed\xef\xf0\xf4\xff"))
		}
		return text(string(out))
	}
	for range 3000 {
		for _, c := range calls() {
			v := pick(&d, []func() api.Value{octets, func() api.Value { return d.handed(c) }})()
			for range d.below(3) {
				v = d.spoiled(v)
			}
			c.check(t, want(c.name, v), v)
		}
	}
}

// TestP1Within: a value that stands within itself is too deep.
func TestP1Within(t *testing.T) {
	within := list(api.Value{})
	within.List[0] = within
	for _, c := range []call{commas(), tabs(), shell(), apply("text"), apply("json"), apply("base64d"), apply("csv"), apply("sh"), apply("none")} {
		if got := c.told(within); got != no(api.ErrDepth) {
			t.Errorf("%s of what stands within itself: %s", c.name, got.show())
		}
	}
}

// TestP3Together: what is told hangs on nothing that other calls do at the same time.
func TestP3Together(t *testing.T) {
	d := dice(1453)
	var all sync.WaitGroup
	for _, c := range calls() {
		for range 20 {
			v := d.handed(c)
			want := want(c.name, v)
			for range 4 {
				all.Go(func() { c.check(t, want, v) })
			}
		}
	}
	all.Wait()
}
