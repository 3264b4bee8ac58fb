package reader

import (
	"testing"

	"bolter/api"
)

// TestP73Back: values come back from their texts, in whatever way they are written.
func TestP73Back(t *testing.T) {
	d := dice(77)
	for range 5000 {
		v := d.value(5)
		b := d.space() + d.written(v) + d.space()
		if got, n, e := Read([]byte(b)); !same(got, v) || n != len(b) || e != api.OK {
			t.Fatalf("Read of %q: %s, %d, error %d, not %s", b, show(got), n, e, show(v))
		}
	}
}

// tails are what may stand behind a fault.
func tails() []string {
	return []string{"", "\"", "]", "}", ",", "1", "x", " ", "\x00", "\xff", "\x80\x80\x80", "[[[[", "null", "\\u0041\"]", "dc00\"", "]]]]]]]]", times("a", 20000), times("[", 100), times(" ", 300) + "1"}
}

// TestP74Fault: as soon as there is a fault, what stands behind it tells no more; and what stood ahead of it is told all the same.
func TestP74Fault(t *testing.T) {
	d := dice(78)
	met := map[api.Errno]int{}
	for range 10000 {
		ahead := ""
		for range d.below(3) {
			ahead += d.written(d.value(1)) + " "
		}
		made := d.spoiled(d.written(d.value(3)))
		if d.below(4) == 0 {
			made = "[" + pick(&d, fragments()) + pick(&d, fragments()) + pick(&d, fragments())
		}
		b := ahead + made
		want := judged([]byte(b), len(ahead))
		if want.is || want.e == api.OK || want.looked > len(b) {
			continue
		}
		met[want.e]++
		l, place, e := All([]byte(b))
		if place != want.place || e != want.e {
			t.Fatalf("All of %q: %d, error %d, not %d, error %d", b, place, e, want.place, want.e)
		}
		for _, tail := range tails() {
			other := []byte(b[:want.looked] + tail)
			if m, n, f := All(other); !sameList(m, l) || n != place || f != e {
				t.Fatalf("All of %s: %s, %d, error %d, not as of %q: %s, %d, error %d", show(other), show(m), n, f, b, show(l), place, e)
			}
			if v, n, is, f := Next(other, len(ahead)); !same(v, api.Value{}) || n != place || is || f != e {
				t.Fatalf("Next of %s: %s, %d, %v, error %d, not as of %q: %d, error %d", show(other), show(v), n, is, f, b, place, e)
			}
		}
	}
	for _, e := range []api.Errno{api.ErrSyntax, api.ErrText, api.ErrExp} {
		if met[e] < 20 {
			t.Errorf("error %d came up %d times", e, met[e])
		}
	}
}

// TestP74Limits: the same of what is too much.
func TestP74Limits(t *testing.T) {
	part := listed(4095, "1") + "]"
	for _, b := range []string{
		times("[", 65), times("{\"a\":", 65), listed(4096, "1") + ",1", keyed(4096, alike, "1") + `,"`, `"` + times("a", 16385) + `"`, `{"` + times("a", 16385) + `"`,
		"[" + part + "," + part + "," + part + "," + part + "]", times("1", 301) + " ", "1e1001,", times("1", 2001) + "]", "[1,]", "[\"\x1f", `{"a":"\ud800\u0`, `["\udc00`, `["\x`, "nul1", "1x", "-]",
	} {
		l, place, e := All([]byte("1 [2]" + b))
		if len(l) != 2 || e == api.OK || e == api.ErrShort {
			t.Fatalf("All of two values and %s: %s, %d, error %d", show(b), show(l), place, e)
		}
		for _, tail := range tails() {
			if m, n, f := All([]byte("1 [2]" + b + tail)); !sameList(m, l) || n != place || f != e {
				t.Errorf("All of two values and %s with %s behind it: %s, %d, error %d, not %d, error %d", show(b), show(tail), show(m), n, f, place, e)
			}
		}
	}
}

// TestP74Value: a value is the same, whatever stands behind it that does not go on with it, and whatever stands ahead of where it is looked for.
func TestP74Value(t *testing.T) {
	d := dice(79)
	for range 3000 {
		v := d.value(3)
		b := d.written(v)
		for _, tail := range []string{"", " ", "]", "}", ",", ":", "\"", "\\", "[", "{", "\x00", "\xff", " 1e9999", " " + times("[", 100)} {
			for _, ahead := range []string{"", "1", "[[", "\"", "\xff", `{"a":"\`, times("[", 100)} {
				got, end, is, e := Next([]byte(ahead+b+tail), len(ahead))
				if !same(got, v) || end != len(ahead)+len(b) || !is || e != api.OK {
					t.Fatalf("Next of %q between %s and %s: %s, %d, %v, error %d", b, show(ahead), show(tail), show(got), end, is, e)
				}
			}
		}
	}
}
