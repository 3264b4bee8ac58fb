package utf

import (
	"slices"
	"strings"
	"testing"
	"unsafe"

	"bolter/api"
)

// share tells whether two texts have memory in common.
func share(a, b string) bool {
	if a == "" || b == "" {
		return false
	}
	x, y := uintptr(unsafe.Pointer(unsafe.StringData(a))), uintptr(unsafe.Pointer(unsafe.StringData(b)))
	return x < y+uintptr(len(b)) && y < x+uintptr(len(a))
}

// TestP44Texts: a text that is told is none of the memory of those that were handed in, nor of another answer.
func TestP44Texts(t *testing.T) {
	for _, s := range someTexts() {
		s = strings.Clone(s)
		n := len(runes(t, s))
		for _, place := range [][2]int{{0, n}, {0, n - 1}, {1, n}, {1, n - 1}, {n / 2, n}, {-1, n}, {0, 1}} {
			a, _ := Slice(s, place[0], place[1])
			b, _ := Slice(s, place[0], place[1])
			if share(a, s) || share(a, b) {
				t.Errorf("Slice(%q, %v) shares memory", s, place)
			}
		}
		octets := []byte(s)
		if a := Mend(octets); len(a) > 0 && share(a, unsafe.String(&octets[0], len(octets))) {
			t.Errorf("Mend(%q) shares memory", s)
		}
	}
}

// TestP44Lists: lists that are told are nobody else's, and what was handed in stays as it was.
func TestP44Lists(t *testing.T) {
	spoil := func(l []int) {
		l = l[:cap(l)]
		for i := range l {
			l[i] = -7
		}
	}
	for _, s := range someTexts() {
		want := runes(t, s)
		first, _ := Runes(s)
		spoil(first)
		again, e := Runes(s)
		checkList(t, "Runes once more", again, e, want, api.OK)

		wantFound := wantPlaces(want, want[:min(1, len(want))])
		part := joined(want[:min(1, len(want))])
		found, _ := Find(s, part)
		spoil(found)
		found, e = Find(s, part)
		checkList(t, "Find once more", found, e, wantFound, api.OK)
	}
}

// withRoom answers l, with room behind it in its memory, so that what is put behind it would be seen.
func withRoom[T any](l []T) []T {
	return append(make([]T, 0, len(l)+8), l...)
}

// TestP44Arguments: Text and Mend leave their lists as they are, and what they told stays when the lists change.
func TestP44Arguments(t *testing.T) {
	for _, s := range append(someTexts(), "\xff", "a\xe2\x82b", "\xc3\xc3\xa9") {
		list, _, _ := wantRunes(s)
		l, b := withRoom(list), withRoom([]byte(s))
		text, _ := Text(l)
		mended := Mend(b)
		if !slices.Equal(l, list) || string(b) != s {
			t.Errorf("%q: what was handed in was changed", s)
		}
		if slices.Max(append(l[len(l):cap(l)], 0)) != 0 || slices.Max(append(b[len(b):cap(b)], 0)) != 0 {
			t.Errorf("%q: something was put behind it", s)
		}
		for i := range l {
			l[i] = 'x'
		}
		for i := range b {
			b[i] = 'x'
		}
		if text != joined(list) || mended != wantMended(s) {
			t.Errorf("%q: what was told hangs on what was handed in", s)
		}
	}
	for _, n := range noCharacters() {
		l := []int{'a', n, 'b'}
		Text(l)
		if !slices.Equal(l, []int{'a', n, 'b'}) {
			t.Errorf("%v: a wrong list was changed", l)
		}
	}
}
