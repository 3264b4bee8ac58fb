package pieces

import (
	"bytes"
	"fmt"
	"slices"
	"strings"
	"testing"

	"bolter/api"
	"bolter/reader"
)

// dice gives numbers that look like chance and are the same in every run.
type dice uint64

func (d *dice) below(n int) int {
	*d = *d*6364136223846793005 + 1442695040888963407
	return int(*d>>33) % n
}

func pick[T any](d *dice, l []T) T {
	return l[d.below(len(l))]
}

func times(s string, n int) string {
	return strings.Repeat(s, n)
}

// values answers the values of texts, each of which is one.
func values(texts ...string) []api.Value {
	var out []api.Value
	for _, s := range texts {
		v, _, e := reader.Read([]byte(s))
		if e != api.OK {
			panic(s)
		}
		out = append(out, v)
	}
	return out
}

func many(n int, s string) []api.Value {
	return slices.Repeat(values(s), n)
}

// same tells whether two values are the same in each field.
func same(a, b api.Value) bool {
	return a.Kind == b.Kind && a.Text == b.Text && a.Num.Neg == b.Num.Neg && a.Num.Exp == b.Num.Exp &&
		slices.Equal(a.Num.Coef, b.Num.Coef) && slices.Equal(a.Keys, b.Keys) && sameList(a.List, b.List)
}

func sameList(a, b []api.Value) bool {
	return slices.EqualFunc(a, b, same)
}

// answer is what Push and Close tell.
type answer struct {
	left Feed
	told []api.Value
	e    api.Errno
}

func pushed(f Feed, piece string) answer {
	left, told, e := Push(f, []byte(piece))
	return answer{left, told, e}
}

func closed(f Feed) answer {
	left, told, e := Close(f)
	return answer{left, told, e}
}

func sameAnswer(a, b answer) bool {
	return bytes.Equal(a.left.Held, b.left.Held) && a.left.At == b.left.At && a.left.Fault == b.left.Fault && sameList(a.told, b.told) && a.e == b.e
}

// show answers what is told, for a person, cut short.
func show(told any) string {
	out := fmt.Sprintf("%q", told)
	return out[:min(len(out), 200)]
}

func (a answer) String() string {
	return fmt.Sprintf("%d values %s, held %s, at %d, fault %d, error %d", len(a.told), show(a.told), show(a.left.Held), a.left.At, a.left.Fault, a.e)
}

func check(t *testing.T, what string, got, want answer) {
	t.Helper()
	if !sameAnswer(got, want) {
		t.Errorf("%s: %v\nnot: %v", what, got, want)
	}
}

// cameUp holds that each of the errors came up often enough to tell something.
func cameUp(t *testing.T, met map[api.Errno]int, errors ...api.Errno) {
	t.Helper()
	for _, e := range errors {
		if met[e] < 20 {
			t.Errorf("error %d came up %d times", e, met[e])
		}
	}
}

// open is a feed without a fault.
func open(held string, at int) Feed {
	return Feed{Held: []byte(held), At: at}
}

// wrong are feeds that may not be.
func wrong() []Feed {
	return []Feed{
		open(times(" ", api.MaxBytes+1), 0), open(times("1", 2*api.MaxBytes), 5), open("", -1), open("1 ", -1), open("1 ", -1<<63), open("", 1<<40+1), open("1 ", 1<<40+1), open("", 1<<63-1),
		{Held: []byte(" "), Fault: api.ErrSyntax}, {Held: []byte("1 "), At: 3, Fault: api.ErrShort}, {Held: []byte("x"), Fault: -1}, {At: -1, Fault: api.ErrSyntax}, {At: 1<<40 + 1, Fault: api.ErrSyntax}, {Held: make([]byte, api.MaxBytes+1), At: -1, Fault: api.ErrText},
	}
}

// faulty are feeds with a fault.
func faulty() []Feed {
	return []Feed{{Fault: api.ErrSyntax}, {At: 7, Fault: api.ErrText}, {Held: []byte{}, At: 1, Fault: api.ErrExp}, {At: 1 << 40, Fault: api.ErrShort}, {Fault: api.ErrState}, {At: 2, Fault: -5}, {At: 3, Fault: 1000}}
}

// cuts answers places to cut a stream at: all of a short one.
func cuts(s string) []int {
	if len(s) > 400 {
		return []int{0, 1, 2, 3, len(s) / 2, len(s) - 2, len(s) - 1, len(s)}
	}
	var out []int
	for i := range len(s) + 1 {
		out = append(out, i)
	}
	return out
}

// fragments are what streams are made of, and pieces of it.
func fragments() []string {
	return []string{"1", "0", "-", "-1", "12.50", ".", ".5", "e", "E", "e+", "E-", "1e999", "1e9999", times("7", 301), "null", "nul", "true", "fals", "false", "[", "]", "[]", "[1, 2.50]", ",", "{", "}", "{}", `{"a":`, `{"b":[1,{"c":null}]}`, ":", `"`, `"a"`, `"\n\u00e9"`, `"\ud83d\ude00"`, `\ud83d`, `\u`, `\`, "d8", "\u00e9", "\"\U0001f600\"", "\xf0\x9f", "\xff", "\x01", " ", " ", " ", "\n", "\t\r ", "x"}
}

// stream gives a stream, mostly of values with white space between.
func (d *dice) stream() string {
	out := ""
	for range d.below(6) {
		out += pick(d, []string{"1", "-0.5e3", "null", "true", `"a\"\u0041"`, `{"a":[1,2],"b":{}}`, "[[],[null, false]]", "\"\u00e9\u20ac\U0001f600\"", "0", "[]"})
		out += pick(d, []string{" ", "\n", "\r\n\t ", "", " "})
	}
	for range d.below(4) {
		at := d.below(len(out) + 1)
		out = out[:at] + pick(d, fragments()) + out[at:]
	}
	return out
}

// cut gives s in pieces, some of them empty.
func (d *dice) cut(s string) [][]byte {
	var out [][]byte
	for s != "" || d.below(3) == 0 {
		n := min(d.below(9), len(s))
		out = append(out, []byte(s[:n]))
		s = s[n:]
	}
	return out
}

// fault is a stream that ends by one: behind how many values, where, which.
type fault struct {
	s     string
	told  int
	place int
	e     api.Errno
}

// ahead answers the values ahead of the fault.
func (f fault) ahead() []api.Value {
	out, _, _ := reader.All([]byte(f.s))
	if len(out) != f.told {
		panic(show(f.s))
	}
	return out
}

// faults are streams that end by a fault behind some values, with the place where it is; none of them waits.
func faults() []fault {
	part := "[" + times("1,", 4094) + "1]"
	return []fault{
		{"x", 0, 0, api.ErrSyntax}, {"1 x", 1, 2, api.ErrSyntax}, {"[1]x", 1, 3, api.ErrSyntax}, {"[1] ]", 1, 4, api.ErrSyntax}, {"1 2 \n,", 2, 5, api.ErrSyntax}, {`"a":`, 1, 3, api.ErrSyntax}, {"[1,]", 0, 3, api.ErrSyntax}, {`1 {"a":[}`, 1, 8, api.ErrSyntax},
		{"nulx", 0, 3, api.ErrSyntax}, {"nullx", 0, 4, api.ErrSyntax}, {"null null1", 1, 9, api.ErrSyntax}, {"01", 0, 1, api.ErrSyntax}, {"1x", 0, 1, api.ErrSyntax}, {"1.x", 0, 2, api.ErrSyntax}, {"-x", 0, 1, api.ErrSyntax}, {"--", 0, 1, api.ErrSyntax}, {"1-", 0, 1, api.ErrSyntax}, {"+1", 0, 0, api.ErrSyntax}, {"1 +1", 1, 2, api.ErrSyntax}, {".5", 0, 0, api.ErrSyntax}, {"1..", 0, 2, api.ErrSyntax}, {"1ee", 0, 2, api.ErrSyntax}, {"1e5e", 0, 3, api.ErrSyntax},
		{"\"a\x1f", 0, 2, api.ErrSyntax}, {`1 "\x`, 1, 3, api.ErrSyntax}, {`"\u00g`, 0, 5, api.ErrSyntax}, {`"\udc00`, 0, 1, api.ErrSyntax}, {`"\ud800\u0`, 0, 1, api.ErrSyntax}, {`"\ud800"`, 0, 1, api.ErrSyntax},
		{"\"\xff", 0, 1, api.ErrText}, {"1 2 \"\xe0\x80", 2, 5, api.ErrText}, {"\"\xed\xa0", 0, 1, api.ErrText}, {"[\"a\xc3\"", 0, 3, api.ErrText}, {"\xff", 0, 0, api.ErrSyntax}, {"1 \xff", 1, 2, api.ErrSyntax},
		{"1e1001 ", 0, 0, api.ErrExp}, {"1 1e1001 ", 1, 2, api.ErrExp}, {"[1e1001]", 0, 1, api.ErrExp}, {`{"a":1e1001,`, 0, 5, api.ErrExp}, {"1e9999999\n", 0, 0, api.ErrExp}, {"-1e-1001]", 0, 0, api.ErrExp}, {"1e1001x", 0, 0, api.ErrExp}, {"1 1e1001.5 ", 1, 2, api.ErrExp}, {"1e1001-\x00", 0, 0, api.ErrExp}, {"1e1001,1", 0, 0, api.ErrExp},
		{times("1", 301) + " ", 0, 0, api.ErrDigits}, {"1 " + times("1", 301) + "]", 1, 2, api.ErrDigits}, {"[0." + times("1", 301) + ",1", 0, 1, api.ErrDigits}, {times("1", 301) + "\"1", 0, 0, api.ErrDigits},
		{times("1", 2001) + " ", 0, 0, api.ErrLong}, {"1 " + times("0", 1) + "." + times("0", 2000) + "}", 1, 2, api.ErrLong}, {"[" + times("1", 2001) + "x", 0, 1, api.ErrLong}, {times("1", 2001) + "[1", 0, 0, api.ErrLong},
		{`"` + times("1", 16385) + `"`, 0, 0, api.ErrLong}, {`1 "` + times("a", 16385) + `"`, 1, 2, api.ErrLong}, {`{"` + times("1", 16385) + `"`, 0, 1, api.ErrLong}, {`["` + times("1", 16385) + `"1`, 0, 1, api.ErrLong},
		{times("[", 65), 0, 64, api.ErrDepth}, {"1 " + times(`{"a":`, 65), 1, 2 + 5*64, api.ErrDepth},
		{"[" + times("1,", 4096) + "1", 0, 8193, api.ErrCount}, {"2 [" + times("1,", 4096) + "1", 1, 8195, api.ErrCount}, {"{" + times(`"a":1,`, 4096) + `"`, 0, 1 + 6*4096, api.ErrCount}, {"1 [" + part + "," + part + "," + part + "," + part + "]", 1, 2, api.ErrCount},
	}
}
