package texts

import (
	"cmp"
	"slices"
	"strings"
	"sync"
	"testing"
	"unsafe"

	"bolter/api"
)

// span is a piece of memory.
type span struct{ from, to uintptr }

func spanOf[T any](from *T, count int) span {
	var one T
	at := uintptr(unsafe.Pointer(from))
	return span{at, at + uintptr(count)*unsafe.Sizeof(one)}
}

// spans are the memory of texts, and of the list that they stand in.
func spans(l []string) []span {
	out := []span{spanOf(unsafe.SliceData(l), cap(l))}
	for _, s := range l {
		out = append(out, spanOf(unsafe.StringData(s), len(s)))
	}
	return out
}

func (a told) spans() []span {
	return append(spans(a.list), spanOf(unsafe.StringData(a.text), len(a.text)))
}

// checkApart holds that no piece of memory of the answers is another one's, nor one of what was handed in.
func checkApart(t *testing.T, what string, answers []told, handed []span) {
	t.Helper()
	var own []span
	for _, a := range answers {
		own = append(own, a.spans()...)
	}
	empty := func(s span) bool { return s.from == s.to }
	own, handed = slices.DeleteFunc(own, empty), slices.DeleteFunc(handed, empty)
	slices.SortFunc(own, func(a, b span) int { return cmp.Compare(a.from, b.from) })
	for i, s := range own {
		if i > 0 && own[i-1].to > s.from || slices.ContainsFunc(handed, func(h span) bool { return h.from < s.to && s.from < h.to }) {
			t.Errorf("%s: memory is shared", what)
			return
		}
	}
}

// writable is texts over octets that may be written over, each in memory of its own.
type writable struct {
	octets [][]byte
	list   []string
}

func writableOf(l []string) writable {
	var out writable
	out.list = make([]string, 0, len(l)+3)
	for _, s := range l {
		octets := append(make([]byte, 0, len(s)+3), s...)
		out.octets = append(out.octets, octets)
		out.list = append(out.list, unsafe.String(unsafe.SliceData(octets), len(octets)))
	}
	return out
}

// untouched tells whether all is as l is, and nothing stands in the room behind.
func (w writable) untouched(l []string) bool {
	for _, octets := range w.octets {
		if slices.Max(append(octets[len(octets):cap(octets)], 0)) != 0 {
			return false
		}
	}
	return slices.Equal(w.list, l) && !slices.ContainsFunc(w.list[len(w.list):cap(w.list)], func(s string) bool { return s != "" })
}

// spoil writes over all of it.
func (w writable) spoil() {
	for _, octets := range w.octets {
		for i := range octets {
			octets[i] = '#'
		}
	}
	for i := range w.list {
		w.list[i] = "spoilt"
	}
}

// eachHanded does something with each call and texts that may be handed in to it.
func eachHanded(do func(c call, l []string)) {
	d := dice(1341)
	for _, c := range calls() {
		for _, s := range append(someTexts(), times("a", most), times("a,", most/2), times("a", most+1), "a\xff") {
			for _, t := range []string{"", "a", ",", "x", s} {
				l := []string{s}
				for len(l) < c.count {
					l = append(l, t)
				}
				do(c, l)
			}
		}
		for range 200 {
			do(c, d.some(c.count))
		}
	}
}

// TestP134Arguments: what is handed in stays as it is, with what stands behind it in its memory.
func TestP134Arguments(t *testing.T) {
	eachHanded(func(c call, l []string) {
		given := writableOf(l)
		c.do(given.list...)
		if !given.untouched(l) {
			t.Errorf("%s of %s: was changed: %s", c.name, showAll(l), showAll(given.list))
		}
	})
}

// TestP134Room: what stands behind Join's list in its memory stays, too.
func TestP134Room(t *testing.T) {
	for n := range 4 {
		l := []string{"a", "b", "c", "d", "e", "f"}
		Join(l[:n], ",")
		if !slices.Equal(l, []string{"a", "b", "c", "d", "e", "f"}) {
			t.Errorf("Join of %d texts: was changed: %s", n, showAll(l))
		}
	}
}

// TestP134Apart: an answer has memory of its own, and so has each text of one.
func TestP134Apart(t *testing.T) {
	eachHanded(func(c call, l []string) {
		given := writableOf(l)
		answers := []told{c.do(given.list...), c.do(given.list...), c.do(l...)}
		checkApart(t, c.name+" of "+showAll(l), answers, slices.Concat(spans(given.list), spans(l)))
	})
}

// TestP134Answers: an answer stays as it is, whatever is done to what was handed in and to all other answers; and it is the same each time.
func TestP134Answers(t *testing.T) {
	eachHanded(func(c call, l []string) {
		first := c.do(l...)
		want := told{strings.Clone(first.text), slices.Clone(first.list), first.is, first.e}
		for i := range want.list {
			want.list[i] = strings.Clone(want.list[i])
		}
		given := writableOf(l)
		got, other := c.do(given.list...), c.do(given.list...)
		given.spoil()
		for _, told := range [][]string{first.list[:cap(first.list)], other.list[:cap(other.list)]} {
			for i := range told {
				told[i] = "spoilt"
			}
		}
		if !got.same(want) {
			t.Errorf("%s of %s: hangs on what it was told of: %s", c.name, showAll(l), got.show())
		}
		c.check(t, want, l...)
	})
}

// TestP1Nil: nil and empty lists are one.
func TestP1Nil(t *testing.T) {
	for _, sep := range someTexts() {
		a, e := Join(nil, sep)
		b, f := Join([]string{}, sep)
		if a != b || e != f || a != "" || e != api.OK {
			t.Errorf("%s: %s, error %d, and %s, error %d", show(sep), show(a), e, show(b), f)
		}
	}
}

// TestP1Any: octets of any kind come to an end; beside an error there is nothing.
func TestP1Any(t *testing.T) {
	d := dice(1342)
	octets := func() string {
		out := make([]byte, d.below(12))
		for i := range out {
			out[i] = pick(&d, []byte("aA, \n\x00\x7f\x80\x9f\xa0\xa9\xbf\xc0\xc3\xe2\xed\xef\xf0\xf4\xff"))
		}
		return string(out)
	}
	for range 5000 {
		for _, c := range calls() {
			l := make([]string, c.count)
			for i := range l {
				l[i] = pick(&d, []func() string{octets, func() string { return d.text(6) }})()
			}
			c.check(t, want(c.name, l...), l...)
		}
	}
}

// TestP1Great: long texts, in which what is looked for nearly stands everywhere, come to an end soon.
func TestP1Great(t *testing.T) {
	s := times("a", 1<<20)
	for _, n := range []int{1, 2, 30, 62, 63, 64, 1000, 1 << 14, 1 << 19} {
		for _, near := range []string{times("a", n) + "b", "b" + times("a", n), times("a", n/2) + "b" + times("a", n/2)} {
			split().check(t, no(api.ErrLong), s, near)
			replace().check(t, no(api.ErrLong), s, near, "")
			replace().check(t, text(""), times(near, 1+(1<<16)/len(near)), near, "")
		}
	}
}

// TestP3Together: what is told hangs on nothing that other calls do at the same time.
func TestP3Together(t *testing.T) {
	d := dice(1343)
	var all sync.WaitGroup
	for _, c := range calls() {
		for range 20 {
			l := d.some(c.count)
			want := want(c.name, l...)
			for range 4 {
				all.Go(func() { c.check(t, want, l...) })
			}
		}
	}
	all.Wait()
}
