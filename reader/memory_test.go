package reader

import (
	"bytes"
	"cmp"
	"slices"
	"testing"
	"unsafe"

	"bolter/api"
	"bolter/value"
)

// span is a piece of memory.
type span struct{ from, to uintptr }

func spanOf[T any](l []T) span {
	var one T
	from := uintptr(unsafe.Pointer(unsafe.SliceData(l)))
	return span{from, from + uintptr(cap(l))*unsafe.Sizeof(one)}
}

func spanOfText(s string) span {
	from := uintptr(unsafe.Pointer(unsafe.StringData(s)))
	return span{from, from + uintptr(len(s))}
}

// spans answers all memory of a list of values.
func spans(l []api.Value) []span {
	out := []span{spanOf(l)}
	for _, v := range l {
		out = append(out, spanOf(v.Num.Coef), spanOfText(v.Text), spanOf(v.Keys))
		for _, key := range v.Keys {
			out = append(out, spanOfText(key))
		}
		out = append(out, spans(v.List)...)
	}
	return slices.DeleteFunc(out, func(s span) bool { return s.from == s.to })
}

// checkApart holds that no two pieces of memory overlap.
func checkApart(t *testing.T, what string, all []span) {
	t.Helper()
	slices.SortFunc(all, func(a, b span) int { return cmp.Compare(a.from, b.from) })
	for i := 1; i < len(all); i++ {
		if all[i].from < all[i-1].to {
			t.Errorf("%s: memory is shared", what)
			return
		}
	}
}

// spoil writes over all of a list of values.
func spoil(l []api.Value) {
	for _, v := range l {
		spoil(v.List)
		for i := range v.Keys {
			v.Keys[i] = "spoilt"
		}
		for i := range v.Num.Coef {
			v.Num.Coef[i] = 0x5a5a5a5a
		}
	}
	l = l[:cap(l)]
	for i := range l {
		l[i] = api.Value{Kind: 9}
	}
}

// told answers the values that the calls tell of b: All's, Read's and Next's.
func told(b []byte) []api.Value {
	l, _, _ := All(b)
	v, _, _ := Read(b)
	w, _, _, _ := Next(b, 0)
	x, _, _, _ := Next(b, min(1, len(b)))
	return append(l, v, w, x)
}

// someOctets gives texts, with room behind them in which something stands.
func someOctets(do func(b []byte)) {
	d := dice(80)
	one := func(s string) {
		b := make([]byte, len(s), len(s)+8)
		copy(b, s)
		copy(b[len(s):cap(b)], "1],\"\\}x ")
		do(b)
	}
	for _, s := range []string{"", "1", `"a"`, `"a" "a" "a"`, `["a","a",""]`, `{"a":"a"}`, `{"a":"b","a":"c"}`, `[{"a":1},{"a":1}]`, `"\u0061"`, "[7,7,7]", "1 1 1", "[[],[]]", `{"k":[{"k":["k"]}]}`, "12", "[1", "nul", `"abc`, "1e999"} {
		one(s)
	}
	for range 2000 {
		s := ""
		for range 1 + d.below(3) {
			s += d.written(d.value(4)) + " "
		}
		if d.below(4) == 0 {
			s = d.spoiled(s)
		}
		one(s)
	}
}

// TestP75Argument: b stays as it is, with what stands behind it in its memory; and that is not looked at.
func TestP75Argument(t *testing.T) {
	someOctets(func(b []byte) {
		was := bytes.Clone(b[:cap(b)])
		got := told(b)
		Space(b, 0)
		if !bytes.Equal(b[:cap(b)], was) {
			t.Errorf("%q was changed: %q", was, b[:cap(b)])
		}
		if want := told(bytes.Clone(b)); !sameList(got, want) {
			t.Errorf("%q: what stands behind it in its memory tells: %s, not %s", b, show(got), show(want))
		}
	})
}

// TestP75Apart: what is told has memory of its own, and so has each part of it.
func TestP75Apart(t *testing.T) {
	someOctets(func(b []byte) {
		once, again := told(b), told(b)
		checkApart(t, show(b), append(slices.Concat(spans(once), spans(again)), spanOf(b)))
	})
}

// TestP75Kept: what was told stays as it is, whatever is done to b and to other answers; and it is the same each time.
func TestP75Kept(t *testing.T) {
	someOctets(func(b []byte) {
		was := bytes.Clone(b)
		want := value.List(told(b)...).List
		got := told(b)
		for i := range b {
			b[i] = '#'
		}
		if !sameList(got, want) {
			t.Errorf("%q: it was kept by an answer: %s, not %s", was, show(got), show(want))
		}
		for i := range got {
			if !same(got[i], want[i]) {
				t.Errorf("%q: two answers share memory", was)
			}
			spoil(got[i : i+1 : i+1])
		}
		if again := told(was); !sameList(again, want) {
			t.Errorf("%q: something is kept that an answer shares: %s, not %s", was, show(again), show(want))
		}
	})
}

// TestP1AnyOctets: octets of any kind come to an end, and what is told may be.
func TestP1AnyOctets(t *testing.T) {
	d := dice(81)
	for range 20000 {
		b := make([]byte, d.below(40))
		for i := range b {
			b[i] = edges()[d.below(len(edges()))]
			if d.below(4) == 0 {
				b[i] = byte(d.below(256))
			}
		}
		at := d.below(60) - 10
		Space(b, at)
		checkJudged(t, b, at)
		for _, v := range told(b) {
			if e := value.Check(v); e != api.OK {
				t.Errorf("%q: what is told may not be: error %d", b, e)
			}
		}
		if t.Failed() {
			return
		}
	}
}
