package printer

import (
	"slices"
	"strconv"
	"strings"
	"testing"

	"bolter/api"
)

func checkLines(t *testing.T, l []api.Value, n int, want string, wantE api.Errno) {
	t.Helper()
	got, e := Lines(l, n)
	checkText(t, "Lines by "+strconv.Itoa(n), l, got, e, want, wantE)
}

// wantLines answers what is to be told of values that may be.
func wantLines(l []api.Value, n int) string {
	var out strings.Builder
	for _, v := range l {
		out.WriteString(wantIndent(v, n) + "\n")
	}
	return out.String()
}

// TestP92LinesNone: where there is no value, none has an error.
func TestP92LinesNone(t *testing.T) {
	for _, n := range append(noIndents(), 0, 1, 8) {
		checkLines(t, nil, n, "", api.OK)
		checkLines(t, []api.Value{}, n, "", api.OK)
	}
}

func TestP92LinesExamples(t *testing.T) {
	one, a := number(1), text("a\n")
	for _, c := range []struct {
		n    int
		l    []api.Value
		want string
	}{
		{0, many(1, one), "1\n"}, {0, []api.Value{one, a}, "1\n\"a\\n\"\n"}, {0, []api.Value{list(one), list(), {}, one}, "[1]\n[]\nnull\n1\n"}, {1, []api.Value{list(one), list(), {}, one}, "[\n 1\n]\n[]\nnull\n1\n"},
		{2, []api.Value{object([]string{"a"}, list(one)), one}, "{\n  \"a\": [\n    1\n  ]\n}\n1\n"}, {8, many(3, list(list())), times("[\n        []\n]\n", 3)}, {3, many(2, text("")), "\"\"\n\"\"\n"},
	} {
		checkLines(t, c.l, c.n, c.want, api.OK)
	}
}

func TestP92Lines(t *testing.T) {
	d := dice(95)
	for range 500 {
		var l []api.Value
		for range d.below(6) {
			l = append(l, d.value(4))
		}
		for n := range api.MaxIndent + 1 {
			checkLines(t, l, n, wantLines(l, n), api.OK)
		}
	}
	for _, v := range someValues() {
		checkLines(t, many(2, v), 0, wantLines(many(2, v), 0), api.OK)
	}
}

// TestP92LinesWrong: the first error counts, wherever it stands.
func TestP92LinesWrong(t *testing.T) {
	one, no, noKind := number(1), text("\xff"), api.Value{Kind: 7}
	long := sized(most+1, one, wantCompact)
	eachWrong(t, func(what string, v api.Value, e api.Errno) {
		for n := range api.MaxIndent + 1 {
			for _, l := range [][]api.Value{{v}, {one, v}, {v, one}, {one, one, v, one}, {v, no}, {one, v, noKind}} {
				checkLines(t, l, n, "", e)
			}
		}
		checkLines(t, []api.Value{v, long}, 0, "", e)
		checkLines(t, []api.Value{long, v}, 0, "", api.ErrLong)
		for _, n := range noIndents() {
			checkLines(t, []api.Value{v, one}, n, "", e)
			checkLines(t, []api.Value{one, v}, n, "", api.ErrRange)
		}
	})
	for _, n := range noIndents() {
		checkLines(t, many(1, one), n, "", api.ErrRange)
		checkLines(t, many(3, one), n, "", api.ErrRange)
	}
}

func TestP92LinesLong(t *testing.T) {
	for _, n := range []int{0, 1, 8} {
		layout := func(v api.Value) string { return wantIndent(v, n) }
		v := sized(most-1, number(7), layout)
		checkLines(t, many(1, v), n, layout(v)+"\n", api.OK)
		checkLines(t, many(1, grown(v, 1)), n, "", api.ErrLong)
		checkLines(t, many(1, grown(v, 2)), n, "", api.ErrLong)
		v = sized(most-3, text("a"), layout)
		for _, l := range [][]api.Value{{v, number(1)}, {number(1), v}} {
			checkLines(t, l, n, wantLines(l, n), api.OK)
			checkLines(t, append(l, number(1)), n, "", api.ErrLong)
			l[slices.IndexFunc(l, func(v api.Value) bool { return v.Kind == 5 })] = grown(v, 1)
			checkLines(t, l, n, "", api.ErrLong)
		}
		checkLines(t, many(2, v), n, "", api.ErrLong)
	}
}

// TestP92LinesMany: many values that are short. An error of a value goes ahead of too many octets in all, even if these are too many by then.
func TestP92LinesMany(t *testing.T) {
	l := many(most/2, number(1))
	checkLines(t, l, 3, times("1\n", most/2), api.OK)
	checkLines(t, append(l, number(1)), 3, "", api.ErrLong)
	checkLines(t, append(l, text("\xff")), 3, "", api.ErrText)
	checkLines(t, append(l, number(1), api.Value{Kind: 7}, text("\xff")), 0, "", api.ErrKind)
	checkLines(t, append(l, number(1), nested(65, number(1), inList)), 8, "", api.ErrDepth)
	checkLines(t, append(l, many(65, text(times("a", api.MaxText)))...), 8, "", api.ErrLong)
}

func checkWidth(t *testing.T, v api.Value, n, want int, wantE api.Errno) {
	t.Helper()
	if got, e := Width(v, n); got != want || e != wantE {
		t.Errorf("Width by %d of %s: %d, error %d, not %d, error %d", n, show(v), got, e, want, wantE)
	}
}

func TestP92WidthExamples(t *testing.T) {
	for _, c := range []struct {
		n    int
		v    api.Value
		want int
	}{
		{0, api.Value{}, 4}, {5, number(-12), 3}, {0, list(), 2}, {4, object(nil), 2}, {0, text(""), 2}, {1, text("a\nb"), 6}, {1, text("\n\n"), 6},
		{0, text("\u00e9"), 4}, {2, text("\u00e9\U0001f600"), 8}, {0, text("\x01\x7f"), 14},
		{0, list(number(1), number(2)), 5}, {1, list(number(1), number(2)), 3}, {8, list(number(1), number(2)), 10}, {8, list(number(1)), 9}, {1, list(list(list())), 4}, {3, list(list(list(number(7)))), 10},
		{0, object([]string{"a"}, list(number(1))), 9}, {1, object([]string{"a"}, list(number(1))), 7}, {2, object([]string{"a", "b"}, list(number(10)), text("\u00e9")), 11}, {1, list(number(12345), number(1)), 7}, {1, list(number(1), number(12345)), 6}, {1, list(number(1), number(12345), number(1)), 7},
	} {
		checkWidth(t, c.v, c.n, c.want, api.OK)
	}
}

func TestP92Width(t *testing.T) {
	all := someValues()
	d := dice(96)
	for range 1000 {
		all = append(all, d.value(4))
	}
	for _, v := range all {
		for n := range api.MaxIndent + 1 {
			text := wantIndent(v, n)
			if len(text) > most {
				checkWidth(t, v, n, 0, api.ErrLong)
				continue
			}
			want := 0
			for line := range strings.SplitSeq(text, "\n") {
				want = max(want, len(line))
			}
			checkWidth(t, v, n, want, api.OK)
		}
	}
}

func TestP92WidthErrors(t *testing.T) {
	eachWrong(t, func(what string, v api.Value, e api.Errno) {
		for _, n := range append(noIndents(), 0, 1, 8) {
			checkWidth(t, v, n, 0, e)
		}
	})
	for _, n := range noIndents() {
		checkWidth(t, list(number(1)), n, 0, api.ErrRange)
		checkWidth(t, list(many(65, text(times("a", api.MaxText)))...), n, 0, api.ErrRange)
	}
	for _, n := range []int{0, 1, 8} {
		v := sized(most, number(1), func(v api.Value) string { return wantIndent(v, n) })
		want := most
		if n > 0 {
			want = n + len(`"",`) + 16000
		}
		checkWidth(t, v, n, want, api.OK)
		checkWidth(t, grown(v, 1), n, 0, api.ErrLong)
	}
}
