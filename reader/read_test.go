package reader

import (
	"math"
	"strings"
	"testing"

	"bolter/api"
)

func TestP72Space(t *testing.T) {
	for _, c := range []struct {
		b        string
		at, want int
	}{
		{"", 0, 0}, {"", -1, 0}, {"", 1, 1}, {"", 7, 7}, {"", math.MinInt, 0}, {"", math.MaxInt, math.MaxInt},
		{"x", 0, 0}, {"x", -5, 0}, {"x", 1, 1}, {"x", 2, 2}, {"x", 3, 3}, {" ", 0, 1}, {" ", 1, 1}, {" ", 2, 2}, {" ", -1, 1},
		{"  x ", 0, 2}, {"  x ", 1, 2}, {"  x ", 2, 2}, {"  x ", 3, 4}, {"  x ", 4, 4}, {"  x ", 5, 5}, {"  x ", -1, 2}, {"  x ", -3, 2},
		{" \t\n\r1", 0, 4}, {"\r\n", 0, 2}, {"\t\x00", 0, 1}, {" \xa0", 0, 1}, {" \u00a0", 0, 1}, {" \u2003", 0, 1}, {"\n\x0b", 0, 1}, {"\n\x0c", 0, 1}, {"\n\x85", 0, 1}, {" \ufeff", 0, 1},
		{times(" ", 100000), 3, 100000}, {times(" ", 100000) + "x ", math.MinInt, 100000}, {times(" ", 100000), math.MaxInt, math.MaxInt}, {times(" ", 100000), 100001, 100001},
	} {
		if place := Space([]byte(c.b), c.at); place != c.want {
			t.Errorf("Space of %s at %d: %d, not %d", show(c.b), c.at, place, c.want)
		}
	}
	if place := Space(nil, -1); place != 0 {
		t.Errorf("Space of nothing: %d", place)
	}
}

// TestP72SpaceOctets: each octet, at each place of some.
func TestP72SpaceOctets(t *testing.T) {
	for c := range 256 {
		b := []byte{' ', byte(c), '\n', byte(c), byte(c)}
		for at := -2; at < 8; at++ {
			want := max(at, 0)
			for want < len(b) && strings.Contains(" \t\n\r", string(b[want:want+1])) {
				want++
			}
			if place := Space(b, at); place != want {
				t.Errorf("Space of %q at %d: %d, not %d", b, at, place, want)
			}
		}
	}
}

func TestP72Read(t *testing.T) {
	for _, b := range []string{"", " ", "\n\t\r ", times(" ", 65536)} {
		if v, n, e := Read([]byte(b)); !same(v, api.Value{}) || n != len(b) || e != api.ErrShort {
			t.Errorf("Read of %s: %s, %d, error %d", show(b), show(v), n, e)
		}
	}
	if v, n, e := Read(nil); !same(v, api.Value{}) || n != 0 || e != api.ErrShort {
		t.Errorf("Read of nothing: %s, %d, error %d", show(v), n, e)
	}
	for _, b := range []string{"1", " 1", "1 ", "\n\t1 \r", times(" ", 65535) + "1", "1" + times("\t", 65535)} {
		if v, n, e := Read([]byte(b)); !same(v, number(1)) || n != len(b) || e != api.OK {
			t.Errorf("Read of %s: %s, %d, error %d", show(b), show(v), n, e)
		}
	}
	for _, b := range []string{times(" ", 65537), times(" ", 65536) + "1", times("x", 65537), "1" + times("\t", 65536)} {
		if v, n, e := Read([]byte(b)); !same(v, api.Value{}) || n != 0 || e != api.ErrLong {
			t.Errorf("Read of %s: %s, %d, error %d", show(b), show(v), n, e)
		}
	}
}

// TestP72Tail: something behind the value, whatever it is.
func TestP72Tail(t *testing.T) {
	for _, b := range []string{"1", "null", `"a"`, "[1,2]", `{"a":1}`, " -1.5e3", "\n[] "} {
		for _, tail := range []string{" 2", "\n\tx", " ]", " ,", " \"", "\r\xff", " \x00", "\n\n1e9999", " [[", " null", "\u00e9", "\x00", "\"", "[", "]", ",", ":", "}", "/"} {
			want := len(b) + len(tail) - len(strings.TrimLeft(tail, " \t\r\n"))
			for _, more := range []string{"", " ", "1", "\xff"} {
				if got, place, e := Read([]byte(b + tail + more)); !same(got, api.Value{}) || place != want || e != api.ErrTail {
					t.Errorf("Read of %q: %s, %d, error %d, not %d, error %d", b, show(got), place, e, want, api.ErrTail)
				}
			}
		}
	}
	// What goes on with a number or a word is no tail.
	for b, want := range map[string]int{"1x": 1, "nullx": 4, "true1": 4, "0.5.": 3, "01": 1} {
		if _, place, e := Read([]byte(b)); place != want || e != api.ErrSyntax {
			t.Errorf("Read of %q: %d, error %d", b, place, e)
		}
	}
}

func TestP72All(t *testing.T) {
	one, two := number(1), number(2)
	for _, c := range []struct {
		b     string
		want  []api.Value
		place int
		e     api.Errno
	}{
		{"", nil, 0, api.OK}, {" ", nil, 1, api.OK}, {"\t\n\r ", nil, 4, api.OK},
		{"1", []api.Value{one}, 1, api.OK}, {" 1 ", []api.Value{one}, 3, api.OK}, {"1 2", []api.Value{one, two}, 3, api.OK}, {"1\n2\n", []api.Value{one, two}, 4, api.OK},
		{`""[]{}`, []api.Value{text(""), list(), object()}, 6, api.OK}, {`1[]2""1 null`, []api.Value{one, list(), two, text(""), one, {}}, 12, api.OK}, {`"a""b"`, []api.Value{text("a"), text("b")}, 6, api.OK}, {`1"a"`, []api.Value{one, text("a")}, 4, api.OK}, {"null null", []api.Value{{}, {}}, 9, api.OK}, {"[1][2]", []api.Value{list(one), list(two)}, 6, api.OK},
		{"1 tru", []api.Value{one}, 5, api.ErrShort}, {"1 2 [", []api.Value{one, two}, 5, api.ErrShort}, {"1 \"", []api.Value{one}, 3, api.ErrShort}, {"[", nil, 1, api.ErrShort}, {"1 -", []api.Value{one}, 3, api.ErrShort}, {"1 [1,", []api.Value{one}, 5, api.ErrShort},
		{"x", nil, 0, api.ErrSyntax}, {"1 x 2", []api.Value{one}, 2, api.ErrSyntax}, {"1,2", []api.Value{one}, 1, api.ErrSyntax}, {"1]", []api.Value{one}, 1, api.ErrSyntax}, {"1 [2,]", []api.Value{one}, 5, api.ErrSyntax}, {"1x", nil, 1, api.ErrSyntax}, {"1 2x", []api.Value{one}, 3, api.ErrSyntax}, {"null1", nil, 4, api.ErrSyntax}, {"1 2 : 1 x", []api.Value{one, two}, 4, api.ErrSyntax},
		{"1 \"\xff", []api.Value{one}, 3, api.ErrText}, {"1 1e9999 2", []api.Value{one}, 2, api.ErrExp}, {"2 " + times("1", 301), []api.Value{two}, 2, api.ErrDigits}, {"1 " + times("[", 65), []api.Value{one}, 66, api.ErrDepth}, {"1\n" + listed(4096, "1") + ",1", []api.Value{one}, 2 + 8192 + 1, api.ErrCount}, {"1 \"" + times("a", 16385) + "\"", []api.Value{one}, 2, api.ErrLong},
	} {
		if l, place, e := All([]byte(c.b)); !sameList(l, c.want) || place != c.place || e != c.e {
			t.Errorf("All of %s: %s, %d, error %d, not %s, %d, error %d", show(c.b), show(l), place, e, show(c.want), c.place, c.e)
		}
	}
	if l, place, e := All(nil); len(l) != 0 || place != 0 || e != api.OK {
		t.Errorf("All of nothing: %s, %d, error %d", show(l), place, e)
	}
	for _, b := range []string{times(" ", 65537), "1 2" + times(" ", 65534), "x" + times("1 ", 40000)} {
		if l, place, e := All([]byte(b)); len(l) != 0 || place != 0 || e != api.ErrLong {
			t.Errorf("All of %s: %s, %d, error %d", show(b), show(l), place, e)
		}
	}
}

// TestP72AllCount: 4096 values and the next one.
func TestP72AllCount(t *testing.T) {
	for _, one := range []string{"1 ", "[]", "null\n", `"a"`, " {}", "\t0"} {
		b := times(one, 4096)
		want := many(4096, decoded(t, []byte(one)))
		for _, behind := range []string{"", " ", "\n \t"} {
			if l, place, e := All([]byte(b + behind)); !sameList(l, want) || place != len(b+behind) || e != api.OK {
				t.Errorf("All of 4096 of %q: %d values, %d, error %d", one, len(l), place, e)
			}
		}
		for _, behind := range []string{"7", "7 x", "[]", "[1] 2", "null", `"abc" ]`, "{}{}", "true,"} {
			for _, space := range []string{" ", "\n\n"} {
				if l, place, e := All([]byte(b + space + behind)); !sameList(l, want) || place != len(b+space) || e != api.ErrCount {
					t.Errorf("All of 4096 of %q and %q: %d values, %d, error %d", one, space+behind, len(l), place, e)
				}
			}
		}
		// There is no such value.
		if l, place, e := All([]byte(b + " ,")); !sameList(l, want) || place != len(b)+1 || e != api.ErrSyntax {
			t.Errorf("All of 4096 of %q and a comma: %d values, %d, error %d", one, len(l), place, e)
		}
	}
	b := times("1 ", 32768)
	if l, place, e := All([]byte(b)); len(l) != 4096 || place != 8192 || e != api.ErrCount {
		t.Errorf("All of many: %d values, %d, error %d", len(l), place, e)
	}
}

// TestP72AllIsNext: All tells what Next tells, again and again, and Read what All tells of one value.
func TestP72AllIsNext(t *testing.T) {
	d := dice(76)
	for range 20000 {
		made := ""
		for range d.below(4) {
			made += d.written(d.value(2)) + d.space()
		}
		if d.below(3) > 0 {
			made = d.spoiled(made)
		}
		b := []byte(made)
		var want []api.Value
		at, place, wantE := 0, len(b), api.OK
		for {
			v, end, is, e := Next(b, at)
			if e != api.OK {
				place, wantE = end, e
			}
			if !is {
				break
			}
			want = append(want, v)
			at = end
		}
		if l, n, e := All(b); !sameList(l, want) || n != place || e != wantE {
			t.Fatalf("All of %q: %s, %d, error %d, not %s, %d, error %d", b, show(l), n, e, show(want), place, wantE)
		}
		v, n, e := Read(b)
		wantV := api.Value{}
		switch {
		case len(want) == 0 && wantE == api.OK:
			wantE = api.ErrShort
		case len(want) == 1 && wantE == api.OK:
			wantV = want[0]
		case len(want) > 0:
			_, end, _, _ := Next(b, 0)
			place, wantE = Space(b, end), api.ErrTail
		}
		if !same(v, wantV) || n != place || e != wantE {
			t.Fatalf("Read of %q: %s, %d, error %d, not %s, %d, error %d", b, show(v), n, e, show(wantV), place, wantE)
		}
	}
}
