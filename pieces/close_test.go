package pieces

import (
	"fmt"
	"testing"

	"bolter/api"
)

func TestP82CloseWrong(t *testing.T) {
	for _, f := range wrong() {
		check(t, fmt.Sprintf("Close of %s at %d, fault %d", show(f.Held), f.At, f.Fault), closed(f), answer{e: api.ErrState})
	}
}

// TestP82CloseFault: a feed that has a fault stays, however often it is closed.
func TestP82CloseFault(t *testing.T) {
	for _, f := range faulty() {
		once := closed(f)
		check(t, fmt.Sprintf("Close of fault %d at %d", f.Fault, f.At), once, answer{left: f, e: f.Fault})
		check(t, "Close of it again", closed(once.left), answer{left: f, e: f.Fault})
	}
}

// TestP82Close: a value that ends just at the end is told now, and nothing is held behind it.
func TestP82Close(t *testing.T) {
	for _, c := range []struct {
		held string
		told []api.Value
	}{
		{"", nil}, {" ", nil}, {"\t\n\r ", nil}, {times(" ", api.MaxBytes), nil},
		{"1", values("1")}, {" 1", values("1")}, {"1 ", values("1")}, {"-12.5e3", values("-12500")}, {"null", values("null")}, {`"a"`, values(`"a"`)}, {"\n[1,2]", values("[1,2]")}, {`{"a":{}}`, values(`{"a":{}}`)},
		{"1 2", values("1", "2")}, {"[][]\n", values("[]", "[]")}, {"1 [2] \"3\" null ", values("1", "[2]", `"3"`, "null")}, {times("1 ", api.MaxItems), many(api.MaxItems, "1")},
	} {
		for _, at := range []int{0, 5, 1<<40 - len(c.held), 1 << 40} {
			got := closed(open(c.held, at))
			check(t, fmt.Sprintf("Close of %s at %d", show(c.held), at), got, answer{left: Feed{At: at + len(c.held)}, told: c.told})
		}
	}
}

// closings are faults that Push does not tell.
func closings() []fault {
	return []fault{
		{"[", 0, 1, api.ErrShort}, {"1 [2", 1, 4, api.ErrShort}, {"nul", 0, 3, api.ErrShort}, {"[] -", 1, 4, api.ErrShort}, {"1.", 0, 2, api.ErrShort}, {"1e+", 0, 3, api.ErrShort}, {`"a`, 0, 2, api.ErrShort}, {`1 2 {"a": `, 2, 10, api.ErrShort}, {"\"\xe2\x82", 0, 3, api.ErrShort}, {`"\ud83d`, 0, 7, api.ErrShort}, {times("[", 64), 0, 64, api.ErrShort},
		{"1e1001", 0, 0, api.ErrExp}, {"1 1e1001", 1, 2, api.ErrExp}, {"[1, 1e1001", 0, 4, api.ErrExp}, {"1e1001-", 0, 0, api.ErrExp}, {"null 1e1001+5", 1, 5, api.ErrExp}, {times("1", 301), 0, 0, api.ErrDigits}, {"1\n-" + times("1", 301), 1, 2, api.ErrDigits}, {times("1", 2001), 0, 0, api.ErrLong}, {"[[], 0." + times("0", 2000), 0, 5, api.ErrLong}, {times("1", api.MaxBytes), 0, 0, api.ErrLong},
		{times("1 ", 4097), 4096, 8192, api.ErrCount}, {times("1 ", 4096) + " x", 4096, 8193, api.ErrSyntax},
	}
}

// TestP82CloseFaults: what waited is a fault now, told behind the values ahead of it; and it stays the feed's.
func TestP82CloseFaults(t *testing.T) {
	for _, c := range append(closings(), faults()...) {
		for _, at := range []int{0, 9, 1<<40 - c.place, 1 << 40} {
			want := answer{left: Feed{At: at + c.place, Fault: c.e}, told: c.ahead(), e: c.e}
			got := closed(open(c.s, at))
			check(t, fmt.Sprintf("Close of %s at %d", show(c.s), at), got, want)
			if got.left.At > 1<<40 {
				continue
			}
			want.told = nil
			check(t, fmt.Sprintf("Close of it again, %s at %d", show(c.s), at), closed(got.left), want)
		}
	}
}
