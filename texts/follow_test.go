package texts

import (
	"slices"
	"strings"
	"testing"

	"bolter/api"
)

// rejoined holds that s, split at sep, is joined again, and that no part of it has sep in it.
func rejoined(t *testing.T, s, sep string) {
	t.Helper()
	l, e := Split(s, sep)
	again, f := Join(l, sep)
	if again != s || e != api.OK || f != api.OK {
		t.Errorf("%s split at %s: %s, error %d, joined again: %s, error %d", show(s), show(sep), showAll(l), e, show(again), f)
	}
	if sep != "" && slices.ContainsFunc(l, func(part string) bool { return strings.Contains(part, sep) }) {
		t.Errorf("%s split at %s: it stands in a part: %s", show(s), show(sep), showAll(l))
	}
}

// TestP133Joined: what is split is joined again, by what it was split at.
func TestP133Joined(t *testing.T) {
	for _, s := range someTexts() {
		for _, sep := range someTexts() {
			rejoined(t, s, sep)
			rejoined(t, s+sep, sep)
			rejoined(t, sep+s, sep)
			rejoined(t, sep+sep+s+sep+s+sep+sep, sep)
		}
	}
	d := dice(1331)
	for range 30000 {
		l := d.some(2)
		rejoined(t, l[0], l[1])
	}
}

// TestP133Great: also at the edges of what is told.
func TestP133Great(t *testing.T) {
	full := times("a", most)
	for _, sep := range []string{"", "a", "aa", "aaa", ",", full, full + "a", full[:most-1], full[:most/2+1]} {
		rejoined(t, full, sep)
		rejoined(t, full[:most-1]+",", sep)
		rejoined(t, ","+full[:most-1], sep)
	}
	for _, char := range []string{"\u00e9", "\U0001f600"} {
		s := times(char, most/len(char))
		for _, sep := range []string{"", char, char + char, s, "a"} {
			rejoined(t, s, sep)
		}
	}
}

// TestP133Parts: texts without what stands between them, joined, are split again.
func TestP133Parts(t *testing.T) {
	d := dice(1332)
	for range 10000 {
		l := []string{"x"}
		for range d.below(6) {
			l = append(l, strings.ReplaceAll(d.text(5), ",", ""))
		}
		s, _ := Join(l, ",")
		split().check(t, parts(l...), s, ",")
		s, _ = Join(append(l, ""), ",\n")
		split().check(t, parts(append(l, "")...), s, ",\n")
	}
}

// TestP132LinesJoined: lines, each with a newline behind it, are the text, but for the newline at its end.
func TestP132LinesJoined(t *testing.T) {
	d := dice(1333)
	for range 10000 {
		s := d.text(20)
		l, e := Lines(s)
		all := ""
		for _, line := range l {
			all += line + "\n"
		}
		if e != api.OK || all != s && all != s+"\n" || strings.HasSuffix(s, "\n") && all != s {
			t.Errorf("%s: %s, error %d", show(s), showAll(l), e)
		}
	}
}
