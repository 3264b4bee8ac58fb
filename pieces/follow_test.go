package pieces

import (
	"slices"
	"testing"

	"bolter/api"
	"bolter/reader"
)

// goThrough pushes all pieces into a feed, those behind a fault too, and closes it; it answers all values, the feed in the end and the first error.
func goThrough(t *testing.T, f Feed, l [][]byte) answer {
	t.Helper()
	got := answer{left: f}
	take := func(left Feed, told []api.Value, e api.Errno) {
		if g := Check(left); g != api.OK || e != api.OK && left.Fault != e || left.Fault != api.OK && len(left.Held) > 0 {
			t.Errorf("%d pieces %s: %v: no such feed: error %d", len(l), show(l), answer{left, told, e}, g)
		}
		if got.e != api.OK && (len(told) > 0 || left.At != got.left.At || left.Fault != got.left.Fault) {
			t.Errorf("%d pieces %s: %v: a feed with a fault does not stay: %v", len(l), show(l), got, answer{left, told, e})
		}
		got.left, got.told = left, append(got.told, told...)
		if got.e == api.OK {
			got.e = e
		}
	}
	for _, piece := range l {
		take(Push(got.left, piece))
	}
	take(Close(got.left))
	return got
}

// checkPieces holds that a stream in pieces is what it is as a whole.
func checkPieces(t *testing.T, l [][]byte, told []api.Value, place int, e api.Errno) {
	t.Helper()
	checkDocs(t, l, told, place, e)
	check(t, "pieces "+show(l), goThrough(t, open("", 77), l), answer{left: Feed{At: 77 + place, Fault: e}, told: told, e: e})
}

// checkWhole holds a stream, cut at every place, each octet alone and all at once, against what the reader tells of it (nothing of one that is too long).
func checkWhole(t *testing.T, s string) {
	t.Helper()
	b := []byte(s)
	if len(b) > api.MaxBytes {
		return
	}
	told, place, e := reader.All(b)
	checkPieces(t, [][]byte{b}, told, place, e)
	for _, i := range cuts(s) {
		checkPieces(t, [][]byte{b[:i], b[i:]}, told, place, e)
		checkPieces(t, [][]byte{nil, b[:i/2], b[i/2 : i], {}, b[i:]}, told, place, e)
	}
	size := 1
	if len(b) > 2500 {
		size = len(b)/7 + 1
	}
	checkPieces(t, slices.Collect(slices.Chunk(b, size)), told, place, e)
}

// TestP83Whole: of each kind of stream that the other tests know.
func TestP83Whole(t *testing.T) {
	for _, c := range pushes() {
		if len(c.told) < api.MaxItems {
			checkWhole(t, c.s)
			checkWhole(t, c.s+" ")
			checkWhole(t, c.s+"x")
		}
	}
	for _, c := range append(faults(), closings()[:len(closings())-2]...) {
		checkWhole(t, c.s)
		checkWhole(t, c.s+" 1")
	}
}

// TestP83Octets: a long stream, each octet alone.
func TestP83Octets(t *testing.T) {
	s := times(`{"a":[1, 2.50,"\u00e9"],"b":null}`+"\n", 40) + times("1", 400) + times("0", 600)
	told, place, e := reader.All([]byte(s))
	if len(told) != 40 || place != len(s)-1000 || e != api.ErrDigits {
		t.Fatalf("%d values, %d, error %d", len(told), place, e)
	}
	checkPieces(t, slices.Collect(slices.Chunk([]byte(s), 1)), told, place, e)
	checkPieces(t, slices.Collect(slices.Chunk([]byte(s), 3)), told, place, e)
}

// TestP83Any: streams of all kinds, in pieces of all kinds.
func TestP83Any(t *testing.T) {
	d := dice(83)
	met := map[api.Errno]int{}
	for range 6000 {
		s := d.stream()
		told, place, e := reader.All([]byte(s))
		met[e]++
		for range 5 {
			checkPieces(t, d.cut(s), told, place, e)
		}
		if len(s) < 60 {
			checkWhole(t, s)
		}
		if t.Failed() {
			return
		}
	}
	cameUp(t, met, api.OK, api.ErrSyntax, api.ErrText, api.ErrExp, api.ErrDigits, api.ErrShort)
}

// TestP83Short: all streams of a few octets each, each octet alone and cut at every place.
func TestP83Short(t *testing.T) {
	for _, octets := range []string{"1[], \"", "01.-+e", "tru e1", "{}\"a:1", "\"\\u0dDc\xc3\xa9"} {
		streams := []string{""}
		for range 4 {
			var longer []string
			for _, s := range streams {
				for i := range len(octets) {
					longer = append(longer, s+octets[i:i+1])
				}
			}
			streams = longer
			for _, s := range streams {
				checkWhole(t, s)
			}
			if t.Failed() {
				return
			}
		}
	}
}

// TestP83Behind: what comes behind a fault, in whatever pieces, changes nothing.
func TestP83Behind(t *testing.T) {
	for _, l := range [][]string{{"  ]", "1"}, {"  ]", "1", "2 "}, {"1 ", "]", "2 ", "3 "}, {"[1", ",2]", "}", "", "4 ", "5 "}, {"x", "", "x", "", "["}, {"1 \xff", "\xff", "[", "]"}, {"1e1001", " ", "1 ", "1e1001 "}} {
		var parts [][]byte
		for _, s := range l {
			parts = append(parts, []byte(s))
		}
		told, place, e := reader.All(slices.Concat(parts...))
		checkPieces(t, parts, told, place, e)
	}
	for _, c := range faults() {
		// What a fault ahead of the end is, is told without what comes behind it.
		for _, more := range somePieces() {
			parts := [][]byte{[]byte(c.s), []byte(more), nil, []byte("1 "), []byte(more), []byte("]"), {}}
			checkPieces(t, parts, c.ahead(), c.place, c.e)
		}
	}
}

// TestP83Deep: what a stream is does not hang on how much was taken ahead of it.
func TestP83Deep(t *testing.T) {
	for _, c := range faults() {
		for _, at := range []int{0, 1, 1 << 20, 1<<40 - len(c.s)} {
			want := answer{left: Feed{At: at + c.place, Fault: c.e}, told: c.ahead(), e: c.e}
			check(t, show(c.s), goThrough(t, open("", at), slices.Collect(slices.Chunk([]byte(c.s), len(c.s)/5+1))), want)
		}
	}
}
