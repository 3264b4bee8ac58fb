package utf

import (
	"slices"
	"strings"
	"testing"

	"bolter/api"
)

// sequences gives the octets where something changes in all orders, up to so many of them one behind another.
func sequences(most int, do func(s string)) {
	do("")
	if most == 0 {
		return
	}
	for i := range len(edgeOctets) {
		sequences(most-1, func(s string) { do(edgeOctets[i:i+1] + s) })
	}
}

// checkOctets holds Check, Runes and Count against the chapter; a first fault is enough.
func checkOctets(t *testing.T, s string) {
	t.Helper()
	if t.Failed() {
		return
	}
	want, wantAt, wantE := wantRunes(s)
	if at, e := Check(s); at != wantAt || e != wantE {
		t.Errorf("Check(%q): %d, error %d, not %d, error %d", s, at, e, wantAt, wantE)
	}
	l, e := Runes(s)
	checkList(t, "Runes of "+s, l, e, want, wantE)
	if n, e := Count(s); n != len(want) || e != wantE {
		t.Errorf("Count(%q): %d, error %d, not %d, error %d", s, n, e, len(want), wantE)
	}
}

// TestP41All: each character has its octets, and no others.
func TestP41All(t *testing.T) {
	for n := range 0x10ffff + 1 {
		s, e := Text([]int{n})
		if !mayBe(n) {
			checkText(t, "a number of no character", s, e, "", api.ErrRange)
			checkOctets(t, octets(n))
			continue
		}
		if s != octets(n) || e != api.OK {
			t.Fatalf("Text of %x: %q, error %d", n, s, e)
		}
		if at, e := Check(s); at != len(s) || e != api.OK {
			t.Fatalf("Check of %x: %d, error %d", n, at, e)
		}
		if l, e := Runes(s); e != api.OK || !slices.Equal(l, []int{n}) {
			t.Fatalf("Runes of %x: %v, error %d", n, l, e)
		}
	}
}

// TestP41Ends: the first and the last character of each length, as they are written.
func TestP41Ends(t *testing.T) {
	for n, want := range map[int]string{
		0: "\x00", 0x7f: "\x7f", 0x80: "\xc2\x80", 0xe9: "\xc3\xa9", 0x7ff: "\xdf\xbf", 0x800: "\xe0\xa0\x80", 0xd7ff: "\xed\x9f\xbf",
		0xe000: "\xee\x80\x80", 0xfffd: "\xef\xbf\xbd", 0xffff: "\xef\xbf\xbf", 0x10000: "\xf0\x90\x80\x80", 0x10ffff: "\xf4\x8f\xbf\xbf",
	} {
		s, e := Text([]int{n})
		checkText(t, "Text", s, e, want, api.OK)
		l, e := Runes(want)
		checkList(t, "Runes", l, e, []int{n}, api.OK)
		if c, e := Count(want); c != 1 || e != api.OK {
			t.Errorf("Count of %x: %d, error %d", n, c, e)
		}
	}
}

func TestP41Sequences(t *testing.T) {
	sequences(4, func(s string) { checkOctets(t, s) })
	d := dice(1)
	for range 20000 {
		checkOctets(t, d.octetsOfAnyKind(12))
		checkOctets(t, d.text(6)+d.octetsOfAnyKind(2)+d.text(6))
	}
	for _, s := range someTexts() {
		checkOctets(t, s)
	}
}

// TestP41Wrong: the place of the first octet that begins no character, and the error ahead of all else.
func TestP41Wrong(t *testing.T) {
	for s, place := range wrong() {
		if at, e := Check(s); at != place || e != api.ErrText {
			t.Errorf("Check(%q): %d, error %d, not %d", s, at, e, place)
		}
		l, e := Runes(s)
		checkList(t, "Runes of "+s, l, e, nil, api.ErrText)
		if n, e := Count(s); n != 0 || e != api.ErrText {
			t.Errorf("Count(%q): %d, error %d", s, n, e)
		}
		for _, place := range [][2]int{{0, 0}, {0, 1}, {-1, 1}, {5, 2}, {-1 << 63, 1<<63 - 1}} {
			text, e := Slice(s, place[0], place[1])
			checkText(t, "Slice of "+s, text, e, "", api.ErrText)
		}
		for _, other := range []string{"", "a", "\u20ac", s, "\xff", strings.Repeat("a", 4000)} {
			l, e := Find(s, other)
			checkList(t, "Find in "+s, l, e, nil, api.ErrText)
			l, e = Find(other, s)
			checkList(t, "Find of "+s, l, e, nil, api.ErrText)
		}
	}
}

func TestP41None(t *testing.T) {
	if at, e := Check(""); at != 0 || e != api.OK {
		t.Errorf("Check of nothing: %d, error %d", at, e)
	}
	for _, l := range [][]int{nil, {}} {
		s, e := Text(l)
		checkText(t, "Text of none", s, e, "", api.OK)
	}
	l, e := Runes("")
	checkList(t, "Runes of nothing", l, e, nil, api.OK)
	if n, e := Count(""); n != 0 || e != api.OK {
		t.Errorf("Count of nothing: %d, error %d", n, e)
	}
}

// TestP41TextWrong: one number that is no character, at each place among others.
func TestP41TextWrong(t *testing.T) {
	others := []int{'a', 0xe9, 0x20ac, 0x1f600}
	for _, n := range noCharacters() {
		for at := range len(others) + 1 {
			s, e := Text(slices.Insert(slices.Clone(others), at, n))
			checkText(t, "Text", s, e, "", api.ErrRange)
		}
		s, e := Text([]int{n})
		checkText(t, "Text", s, e, "", api.ErrRange)
		s, e = Text([]int{n, n})
		checkText(t, "Text", s, e, "", api.ErrRange)
	}
}

// TestP43: a text comes back from its characters, and they from their text.
func TestP43(t *testing.T) {
	for _, s := range someTexts() {
		l, e1 := Runes(s)
		back, e2 := Text(l)
		if e1 != api.OK || e2 != api.OK || back != s {
			t.Errorf("%q there and back: %q, errors %d, %d", s, back, e1, e2)
		}
	}
	sequences(3, func(s string) {
		if l, e := Runes(s); e == api.OK {
			back, e := Text(l)
			checkText(t, "there and back", back, e, s, api.OK)
		}
	})
	all := edgeCharacters()
	s, e1 := Text(all)
	back, e2 := Runes(s)
	if e1 != api.OK {
		t.Errorf("Text: error %d", e1)
	}
	checkList(t, "back and there", back, e2, all, api.OK)
}
