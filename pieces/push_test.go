package pieces

import (
	"fmt"
	"regexp"
	"strings"
	"testing"

	"bolter/api"
	"bolter/reader"
)

func TestP81Check(t *testing.T) {
	for _, f := range wrong() {
		if e := Check(f); e != api.ErrState {
			t.Errorf("Check of %d octets %s at %d, fault %d: error %d", len(f.Held), show(f.Held), f.At, f.Fault, e)
		}
	}
	may := []Feed{{}, open("", 0), open("", 1), open("", 1<<40), open("1", 1<<40), open("", 1<<40-1), open(times("x", api.MaxBytes), 0), open(times(" ", api.MaxBytes), 1<<40), open(times("1", api.MaxBytes-1), 3), open("\xff", 0), open("[1] 2 ", 12)}
	for _, f := range append(may, faulty()...) {
		if e := Check(f); e != api.OK {
			t.Errorf("Check of %d octets %s at %d, fault %d: error %d", len(f.Held), show(f.Held), f.At, f.Fault, e)
		}
	}
}

// somePieces are pieces of each kind, one that is too long among them.
func somePieces() []string {
	return []string{"", "1", " ", "1 2 ", "x", "\xff", times(" ", api.MaxBytes), times("1 ", api.MaxBytes)}
}

// TestP81Wrong: Check's error goes ahead of all, with no feed and no values beside it.
func TestP81Wrong(t *testing.T) {
	for _, f := range wrong() {
		for _, piece := range somePieces() {
			check(t, fmt.Sprintf("Push of %s at %d, fault %d, and %s", show(f.Held), f.At, f.Fault, show(piece)), pushed(f, piece), answer{e: api.ErrState})
		}
	}
}

// TestP81Fault: a feed that has a fault takes nothing and stays as it is, however often something is pushed to it; of an empty piece it tells none.
func TestP81Fault(t *testing.T) {
	for _, f := range faulty() {
		left := f
		for _, piece := range somePieces() {
			want := answer{left: f, e: f.Fault}
			if piece == "" {
				want.e = api.OK
			}
			check(t, fmt.Sprintf("Push of fault %d and %s", f.Fault, show(piece)), pushed(f, piece), want)
			got := pushed(left, piece)
			check(t, fmt.Sprintf("Push of fault %d, behind others, and %s", f.Fault, show(piece)), got, want)
			left = got.left
		}
		check(t, fmt.Sprintf("Close of fault %d behind pushes", f.Fault), closed(left), answer{left: f, e: f.Fault})
		for _, piece := range [][]byte{nil, {}, make([]byte, 0, 9)} {
			left, told, e := Push(f, piece)
			check(t, "Push of a fault and an empty piece", answer{left, told, e}, answer{left: f})
		}
	}
}

// TestP81Long: Held and a piece of more octets together than may be held: the feed stays, and no value of it is told.
func TestP81Long(t *testing.T) {
	for _, n := range []int{0, 1, 2, 3, 100, 32768, api.MaxBytes - 2, api.MaxBytes - 1, api.MaxBytes} {
		for _, s := range []string{" ", "1", "\n", `"`} {
			f := open(times(s, n), n)
			m := api.MaxBytes - n
			for _, more := range []string{times(" ", m+1), times("1", m+1), "1 2 x" + times(" ", m), times(" ", 2*api.MaxBytes)} {
				check(t, fmt.Sprintf("Push of %d octets %q and %d %s", n, s, len(more), show(more)), pushed(f, more), answer{left: f, e: api.ErrLong})
			}
		}
		got := pushed(open(times(" ", n), 9), times("\n", api.MaxBytes-n))
		check(t, fmt.Sprintf("Push of %d blanks and others", n), got, answer{left: open(times(" ", n)+times("\n", api.MaxBytes-n), 9)})
	}
	f := open("1 2 [", 4)
	check(t, "Push of values and too much", pushed(f, times(" ", api.MaxBytes-4)), answer{left: f, e: api.ErrLong})
	check(t, "Push of values and just as much as may be", pushed(f, times(" ", api.MaxBytes-5)), answer{left: open(" ["+times(" ", api.MaxBytes-5), 7), told: values("1", "2")})
	check(t, "Push of a fault and too much", pushed(open("x", 4), times(" ", api.MaxBytes)), answer{left: open("x", 4), e: api.ErrLong})
	check(t, "Push of a fault and just as much as may be", pushed(open("x", 4), times(" ", api.MaxBytes-1)), answer{left: Feed{At: 4, Fault: api.ErrSyntax}, e: api.ErrSyntax})
}

// push is what a push of s tells: values, how many octets are taken; the others are held.
type push struct {
	s     string
	told  []api.Value
	taken int
}

func pushes() []push {
	return []push{
		{"", nil, 0}, {" ", nil, 0}, {" \t\r\n", nil, 0},
		// Values that end just at the end wait.
		{"1", nil, 0}, {"-12.5e3", nil, 0}, {"null", nil, 0}, {"true", nil, 0}, {`"a"`, nil, 0}, {"[1]", nil, 0}, {"{}", nil, 0}, {"  [1]", nil, 0}, {"\n1", nil, 0},
		// One is taken off, with the white space ahead of it, but not that behind it.
		{"1 ", values("1"), 1}, {"1\n\n", values("1"), 1}, {" 1 ", values("1"), 2}, {"\t\r\n [1, 2.50] ", values("[1,2.5]"), 13}, {`"a" `, values(`"a"`), 3}, {"null\t", values("null"), 4}, {"{}\r", values("{}"), 2},
		// What begins the next value is held.
		{"1 2", values("1"), 1}, {"[][", values("[]"), 2}, {"[] [1", values("[]"), 2}, {`"a""b`, values(`"a"`), 3}, {`1"a"`, values("1"), 1}, {"1[]", values("1"), 1}, {"null[nul", values("null"), 4}, {"{} -", values("{}"), 2}, {"1 \"\xf0\x9f", values("1"), 1}, {`true"\ud83d\u`, values("true"), 4},
		// Several.
		{"1 2 3 ", values("1", "2", "3"), 5}, {"1 2 3", values("1", "2"), 3}, {" 1\n[2] {\"a\":3}\t\"4\" ", values("1", "[2]", `{"a":3}`, `"4"`), 18}, {`[]{}""[]{}`, values("[]", "{}", `""`, "[]"), 8}, {"1[]null ", values("1", "[]", "null"), 7}, {"false true  null", values("false", "true"), 10},
		// What ends too early waits.
		{"[", nil, 0}, {"[1", nil, 0}, {"[1,", nil, 0}, {`{"a"`, nil, 0}, {`{"a":`, nil, 0}, {`"`, nil, 0}, {`"a`, nil, 0}, {`"\`, nil, 0}, {`"\u00e`, nil, 0}, {`"\ud83d`, nil, 0}, {`"\ud83d\ude0`, nil, 0}, {"\"\xc3", nil, 0}, {"\"\xf0\x9f\x98", nil, 0}, {"-", nil, 0}, {"1.", nil, 0}, {"1e", nil, 0}, {"1e+", nil, 0}, {"t", nil, 0}, {"fals", nil, 0}, {times("[", 64), nil, 0}, {`"` + times("a", 20000), nil, 0},
		// And a number that goes to the end, though by now it may not be.
		{"1e1001", nil, 0}, {"-1E+1001", nil, 0}, {"1e9999999", nil, 0}, {"[1e1001", nil, 0}, {`{"a":[1,0e1000000`, nil, 0}, {"1 1e-1001", values("1"), 1}, {"1e1001-", nil, 0}, {"1e1001.5", nil, 0}, {"1e1001+e.E-1", nil, 0},
		{times("1", 301), nil, 0}, {"-" + times("1", 301), nil, 0}, {"0." + times("1", 301), nil, 0}, {times("7", 301) + "e5", nil, 0}, {times("7", 301) + "e-5", nil, 0}, {times("7", 301) + "E5", nil, 0}, {"[1, " + times("1", 301), nil, 0}, {"[] " + times("1", 301), values("[]"), 2}, {times("1", 301) + "-1", nil, 0},
		{times("1", 2001), nil, 0}, {"0." + times("0", 2000), nil, 0}, {times("1", api.MaxBytes), nil, 0}, {`{"a":` + times("1", 2001), nil, 0}, {"1e" + times("0", 2001), nil, 0}, {"true\n" + times("1", 2001), values("true"), 4}, {times("1", 2001) + "+.e", nil, 0},
		// More values than a list may have.
		{times("1 ", api.MaxBytes/2), many(api.MaxBytes/2, "1"), api.MaxBytes - 1}, {times("[]", api.MaxBytes/2), many(api.MaxBytes/2-1, "[]"), api.MaxBytes - 2},
	}
}

// TestP81Push: what is held and a piece are read as one, from the beginning on, wherever they are cut.
func TestP81Push(t *testing.T) {
	for _, c := range pushes() {
		for _, i := range cuts(c.s) {
			for _, at := range []int{0, 7, 1<<40 - len(c.s)} {
				got := pushed(open(c.s[:i], at), c.s[i:])
				check(t, fmt.Sprintf("Push of %s and %s at %d", show(c.s[:i]), show(c.s[i:]), at), got, answer{left: open(c.s[c.taken:], at+c.taken), told: c.told})
			}
		}
	}
}

// TestP81PushFault: a fault is told behind the values ahead of it, as soon as it stands.
func TestP81PushFault(t *testing.T) {
	for _, c := range faults() {
		for _, i := range cuts(c.s) {
			for _, behind := range []string{"", " 1 [", "x"} {
				for _, at := range []int{0, 9, 1<<40 - c.place} {
					want := answer{left: Feed{At: at + c.place, Fault: c.e}, told: c.ahead(), e: c.e}
					check(t, fmt.Sprintf("Push of %s and %s at %d", show(c.s[:i]), show(c.s[i:]+behind), at), pushed(open(c.s[:i], at), c.s[i:]+behind), want)
				}
			}
		}
	}
}

// TestP81Waits: a number goes on by digits, + - . e E alone; each other octet behind it ends it.
func TestP81Waits(t *testing.T) {
	for s, e := range map[string]api.Errno{"1e1001": api.ErrExp, times("1", 301): api.ErrDigits, "0." + times("0", 2000): api.ErrLong} {
		for _, ahead := range []string{"", " ", "[", `{"a":`, "[1,{\"a\":[\n"} {
			for c := range 256 {
				b := ahead + s + string([]byte{byte(c)})
				want := answer{left: Feed{At: len(ahead) + 3, Fault: e}, e: e}
				if strings.IndexByte("0123456789+-.eE", byte(c)) >= 0 {
					want = answer{left: open(b, 3)}
				}
				check(t, "Push of "+show(b), pushed(open("", 3), b), want)
			}
		}
	}
}

// TestP81NoMore: no feed holds a value that ended, nor a fault that stands; what it holds begins as it did.
func TestP81NoMore(t *testing.T) {
	number := regexp.MustCompile(`^[-+.eE0-9]+$`)
	d := dice(81)
	told, waited := map[api.Errno]int{}, map[api.Errno]int{}
	for range 20000 {
		s := d.stream()
		i := d.below(len(s) + 1)
		got := pushed(open(s[:i], 5), s[i:])
		told[got.e]++
		if got.e != api.OK {
			continue
		}
		held := string(got.left.Held)
		if s[got.left.At-5:] != held {
			t.Fatalf("Push of %q: it holds %q at %d", s, held, got.left.At)
		}
		l, place, e := reader.All([]byte(held))
		switch {
		case e == api.ErrShort && len(l) == 0:
		case e == api.ErrExp || e == api.ErrDigits || e == api.ErrLong:
			if !number.MatchString(held[place:]) || len(l) > 0 {
				t.Fatalf("Push of %q: it holds %q, which has error %d at %d", s, held, e, place)
			}
		case e != api.OK, len(l) > 1, len(l) == 1 && strings.TrimRight(held, " \t\n\r") != held:
			t.Fatalf("Push of %q: it holds %q", s, held)
		}
		waited[e]++
	}
	cameUp(t, told, api.OK, api.ErrSyntax, api.ErrText, api.ErrExp, api.ErrDigits)
	cameUp(t, waited, api.OK, api.ErrShort, api.ErrExp, api.ErrDigits)
}
