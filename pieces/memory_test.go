package pieces

import (
	"bytes"
	"cmp"
	"slices"
	"testing"
	"unsafe"

	"bolter/api"
	"bolter/value"
)

// span is a piece of memory.
type span struct{ from, to uintptr }

func spanOf[T any](l []T) span {
	var one T
	from := uintptr(unsafe.Pointer(unsafe.SliceData(l)))
	return span{from, from + uintptr(cap(l))*unsafe.Sizeof(one)}
}

func spanOfText(s string) span {
	return spanOf(unsafe.Slice(unsafe.StringData(s), len(s)))
}

// spans answers all memory of a list of values.
func spans(l []api.Value) []span {
	out := []span{spanOf(l)}
	for _, v := range l {
		out = append(out, spanOf(v.Num.Coef), spanOfText(v.Text), spanOf(v.Keys))
		for _, key := range v.Keys {
			out = append(out, spanOfText(key))
		}
		out = append(out, spans(v.List)...)
	}
	return out
}

// checkApart holds that no two pieces of memory overlap.
func checkApart(t *testing.T, what string, all []span) {
	t.Helper()
	all = slices.DeleteFunc(all, func(s span) bool { return s.from == s.to })
	slices.SortFunc(all, func(a, b span) int { return cmp.Compare(a.from, b.from) })
	for i := 1; i < len(all); i++ {
		if all[i].from < all[i-1].to {
			t.Errorf("%s: memory is shared", what)
			return
		}
	}
}

// spoil writes over all of an answer.
func spoil(a answer) {
	for i := range a.left.Held[:cap(a.left.Held)] {
		a.left.Held[:cap(a.left.Held)][i] = '?'
	}
	spoilValues(a.told)
}

func spoilValues(l []api.Value) {
	for _, v := range l {
		spoilValues(v.List)
		for i := range v.Keys {
			v.Keys[i] = "spoilt"
		}
		for i := range v.Num.Coef {
			v.Num.Coef[i] = 0x5a5a5a5a
		}
	}
	for i := range l[:cap(l)] {
		l[:cap(l)][i] = api.Value{Kind: 9}
	}
}

// roomy answers s with room behind it, in which something stands.
func roomy(s string) []byte {
	out := append(make([]byte, 0, len(s)+16), s...)
	copy(out[len(out):cap(out)], `1],"\}x 2 [3] "a"`)
	return out
}

// handed are octets that are handed in, with what stands behind them in their memory.
type handed [][]byte

func (h handed) all() string {
	out := ""
	for _, b := range h {
		out += string(b[:cap(b)]) + "|"
	}
	return out
}

// call answers all that the calls tell of a feed that holds h's first part, of the second as a piece, of what a push left and the third, and of all parts as pieces.
func (h handed) call() []answer {
	var out []answer
	take := func(left Feed, told []api.Value, e api.Errno) Feed {
		out = append(out, answer{left, told, e})
		return left
	}
	f := Feed{Held: h[0], At: 5}
	Check(f)
	left := take(Push(f, h[1]))
	take(Push(left, h[2]))
	take(Close(left))
	take(Push(f, nil))
	take(Close(f))
	// It holds nothing, but has memory where it might.
	faulty := Feed{Held: h[0][:0], At: 5, Fault: api.ErrText}
	take(Push(faulty, h[1]))
	take(Push(faulty, nil))
	take(Close(faulty))
	docs, at, e := Docs(h...)
	take(Feed{At: at}, docs, e)
	return out
}

func (h handed) spans() []span {
	var out []span
	for _, b := range h {
		out = append(out, spanOf(b))
	}
	return out
}

func answersSpans(l []answer) []span {
	var out []span
	for _, a := range l {
		out = append(out, spanOf(a.left.Held))
		out = append(out, spans(a.told)...)
	}
	return out
}

// someOctets gives parts of streams.
func someOctets(do func(h handed)) {
	for _, l := range [][3]string{
		{"", "", ""}, {"1", "", " "}, {"", "1", " 2"}, {`"a`, `" "a" "a`, `"`}, {`["a","a"`, `,""] 1`, "2 "}, {`{"a":"a"} {`, `"a":"b","a":"c"} 1 `, "x"}, {"1 2 [", "3]", "4"}, {"7 7", "7 7 x", "7"}, {"[", "1", "]"}, {"1 [2] ", " x", "1"}, {"x", " ", " "},
		{"1 " + times(" ", api.MaxBytes-3), "12", " 3"}, {"1 2 " + times(" ", api.MaxBytes-6), "[1]", ""}, {times("1 ", 5000), times("2 ", 100), "3"},
	} {
		do(handed{roomy(l[0]), roomy(l[1]), roomy(l[2])})
	}
	d := dice(84)
	for range 3000 {
		s := d.stream() + d.stream()
		i, j := d.below(len(s)+1), d.below(len(s)+1)
		do(handed{roomy(s[:min(i, j)]), roomy(s[min(i, j):max(i, j)]), roomy(s[max(i, j):])})
	}
}

// TestP84Argument: what is handed in stays as it is, with what stands behind it in its memory; and that is not looked at.
func TestP84Argument(t *testing.T) {
	someOctets(func(h handed) {
		was := h.all()
		got := h.call()
		if h.all() != was {
			t.Fatalf("%s was changed: %s", show(was), show(h.all()))
		}
		other := handed{}
		for _, b := range h {
			other = append(other, slices.Clip(bytes.Clone(b)))
		}
		if want := other.call(); !slices.EqualFunc(got, want, sameAnswer) {
			t.Fatalf("%s: what stands behind it in its memory tells: %s, not %s", show(h), show(got), show(want))
		}
	})
}

// TestP84Apart: nothing that is told shares memory with what was handed in, with another answer, or with another part of its own.
func TestP84Apart(t *testing.T) {
	someOctets(func(h handed) {
		once, again := h.call(), h.call()
		checkApart(t, show(h), slices.Concat(answersSpans(once), answersSpans(again), h.spans()))
	})
}

// TestP84Kept: what was told stays as it is, whatever is done to what was handed in and to other answers; and it is the same each time.
func TestP84Kept(t *testing.T) {
	someOctets(func(h handed) {
		was := handed{}
		for _, b := range h {
			was = append(was, bytes.Clone(b))
		}
		want, got := was.call(), h.call()
		for i := range want {
			want[i].told = value.List(want[i].told...).List
			want[i].left.Held = bytes.Clone(want[i].left.Held)
		}
		for _, b := range h {
			copy(b[:cap(b)], times("#", cap(b)))
		}
		for i := range got {
			if !sameAnswer(got[i], want[i]) {
				t.Fatalf("%s: an answer shares memory with another one, or with what was handed in: %v, not %v", show(was), got[i], want[i])
			}
			spoil(got[i])
		}
		if again := was.call(); !slices.EqualFunc(again, want, sameAnswer) {
			t.Fatalf("%s: something is kept that an answer shares: %s, not %s", show(was), show(again), show(want))
		}
	})
}

// TestP1AnyFeeds: feeds of any kind, and pieces of any kind, come to an end, and what is told may be.
func TestP1AnyFeeds(t *testing.T) {
	d := dice(85)
	ats := []int{0, 1, 5, 1 << 40, 1<<40 + 1, -1, 1<<63 - 1, -1 << 63}
	for range 20000 {
		b := make([]byte, d.below(20))
		for i := range b {
			b[i] = byte(d.below(256))
		}
		s := append(b, d.stream()...)
		i := d.below(len(s) + 1)
		f := Feed{Held: s[:i], At: pick(&d, ats)}
		if d.below(8) == 0 {
			f.Fault = api.Errno(d.below(300) - 10)
		}
		for _, a := range []answer{pushed(f, string(s[i:])), closed(f)} {
			if e := Check(f); e != api.OK {
				check(t, "a feed that may not be", a, answer{e: e})
			}
			for _, v := range a.told {
				if e := value.Check(v); e != api.OK {
					t.Fatalf("%q and %q: what is told may not be: error %d", s[:i], s[i:], e)
				}
			}
		}
	}
}
