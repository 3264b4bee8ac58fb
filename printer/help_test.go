package printer

import (
	"bytes"
	"encoding/json"
	"fmt"
	"slices"
	"strconv"
	"strings"
	"testing"
	"unicode/utf16"

	"bolter/api"
	"bolter/dec"
	"bolter/value"
)

// most is how many octets may be told.
const most = 1 << 20

// dice gives numbers that look like chance and are the same in every run.
type dice uint64

func (d *dice) below(n int) int {
	*d = *d*6364136223846793005 + 1442695040888963407
	return int(*d>>33) % n
}

func pick[T any](d *dice, l []T) T {
	return l[d.below(len(l))]
}

// These put a value of a kind together, as it is told, whether it may be or not.
func number(n int) api.Value              { return value.Number(n) }
func text(s string) api.Value             { return api.Value{Kind: 4, Text: s} }
func list(l ...api.Value) api.Value       { return api.Value{Kind: 5, List: l} }
func many(n int, v api.Value) []api.Value { return slices.Repeat([]api.Value{v}, n) }
func times(s string, n int) string        { return strings.Repeat(s, n) }
func object(keys []string, l ...api.Value) api.Value {
	return api.Value{Kind: 6, Keys: keys, List: l}
}

func decimal(s string) api.Value {
	num, e := dec.Parse(s)
	if e != api.OK {
		panic(s)
	}
	return api.Value{Kind: 3, Num: num}
}

// nested puts v into so many lists, or objects, or both by turns.
func nested(times int, v api.Value, wrap ...func(api.Value) api.Value) api.Value {
	for i := range times {
		v = wrap[i%len(wrap)](v)
	}
	return v
}

func inList(v api.Value) api.Value   { return list(v) }
func inObject(v api.Value) api.Value { return object([]string{"k"}, v) }
func behind(v api.Value) api.Value   { return list(number(1), v) }
func ahead(v api.Value) api.Value    { return list(v, text("")) }

// someTexts are texts, rising by their octets.
func someTexts() []string {
	out := []string{"", "a", "ab", "\"", "\\", "/", "\x00", "\x00\x00", "\b\f\n\r\t", "\v", "\x1f \x7f", " ", "~", "\x7f", "\u0080", "\u00e9", "a\u00e9b", "\u07ff", "\u0800", "\u2028\u2029", "\ud7ff", "\ue000", "\ufeff", "\ufffd", "\uffff", "\U00010000", "\U0001f600", "\U0010fc00", "\U0010ffff", "\\u0041", "\\n", "null", "[1,\n 2]", "{\"a\":\n1}", "<&>'"}
	slices.Sort(out)
	return out
}

func someNumbers() []string {
	return []string{"0", "1", "-1", "10", "12", "1.5", "-0.25", "2.50", "1e3", "1e21", "1e20", "1e-6", "1e-7", "123e-8", "-12.50E-007", "1e1000", "1e-1000", "-12e1000", "123456789012345678901234567890", times("9", 300), times("9", 300) + "e1000", times("7", 300) + "e-1000"}
}

// value gives a value that may be, at most so deep.
func (d *dice) value(deep int) api.Value {
	switch n := d.below(12); {
	case n < 2:
		return value.Bool(n == 0)
	case n == 2:
		return api.Value{}
	case n < 5:
		return decimal(pick(d, someNumbers()))
	case n < 7 || deep == 0:
		return text(pick(d, someTexts()) + pick(d, someTexts()))
	case n < 9:
		var l []api.Value
		for range d.below(5) {
			l = append(l, d.value(deep-1))
		}
		return list(l...)
	}
	out := object(nil)
	for _, key := range someTexts() {
		if d.below(9) == 0 {
			out.Keys = append(out.Keys, key)
			out.List = append(out.List, d.value(deep-1))
		}
	}
	return out
}

// someValues are values that may be: of all kinds, and at their edges. Their texts can be read.
func someValues() []api.Value {
	out := []api.Value{{}, value.Bool(false), value.Bool(true), list(), object(nil), list(list()), list(object(nil)), object([]string{""}, list()), object([]string{"a"}, object(nil))}
	for _, s := range someNumbers() {
		out = append(out, decimal(s))
	}
	for _, s := range someTexts() {
		out = append(out, text(s), object([]string{s}, text(s)))
	}
	for _, wrap := range [][]func(api.Value) api.Value{{inList}, {inObject}, {inList, inObject}, {behind, inObject}, {ahead}} {
		out = append(out, nested(1, text("a\n"), wrap...), nested(2, api.Value{}, wrap...), nested(60, number(7), wrap...), nested(63, list(), wrap...), nested(63, object(nil), wrap...), nested(64, number(7), wrap...))
	}
	var all []api.Value
	for i := range someTexts() {
		all = append(all, number(i))
	}
	return append(out,
		list(out[:5]...), list(list(number(1), number(2)), list(), number(3), object(nil), object([]string{"a", "b"}, list(), number(-4))),
		list(all...), object(someTexts(), all...), list(many(4096, number(1))...), list(many(3, list(many(4096, number(1))...))...), list(many(3, list(many(4096, list())...))...),
		text(times("a", api.MaxText)), text(times("\u00e9", api.MaxText/2)), object([]string{times("k", api.MaxText)}, number(1)),
		object(keys(4096), many(4096, api.Value{})...),
	)
}

// keys answers so many keys, rising.
func keys(n int) []string {
	out := make([]string, n)
	for i := range out {
		out[i] = strconv.Itoa(1000000 + i)
	}
	return out
}

// wrong are values that may not be, with value.Check's errors.
func wrong() map[string]api.Value {
	within := list(api.Value{})
	within.List[0] = within
	return map[string]api.Value{
		"42: too deep":             nested(65, number(1), inList),
		"42: too deep, empty":      nested(64, object(nil), inObject),
		"42: deeper":               nested(5000, number(1), inList, inObject),
		"42: within itself":        within,
		"3: too many":              list(append(many(3, list(many(4096, number(1))...)), many(4093, number(1))...)...),
		"23: below all kinds":      {Kind: -1},
		"23: above all kinds":      {Kind: 7},
		"23: within a list":        list(number(1), list(api.Value{Kind: 9})),
		"61: no text":              text("a\xff"),
		"61: no text within":       list(text("a"), object([]string{"a"}, text("\xed\xa0\x80"))),
		"61: no text as a key":     object([]string{"a", "b\xc3"}, number(1), number(2)),
		"5: a long text":           text(times("a", api.MaxText+1)),
		"5: a long key":            object([]string{times("a", api.MaxText+1)}, number(1)),
		"5: a long list":           list(many(4097, number(1))...),
		"5: a long object":         object(keys(4097), many(4097, number(1))...),
		"9: a number":              {Kind: 3, Num: api.Dec{Coef: []uint32{10}}},
		"9: a number's end":        {Kind: 3, Num: api.Dec{Coef: []uint32{1, 0}}},
		"9: a number below 0":      list(api.Value{Kind: 3, Num: api.Dec{Neg: true}}),
		"9: a number too great":    {Kind: 3, Num: api.Dec{Coef: []uint32{1}, Exp: 1001}},
		"9: a text in null":        {Text: "a"},
		"9: a list in a text":      {Kind: 4, List: many(1, number(1))},
		"9: keys of a list":        {Kind: 5, Keys: []string{"a"}, List: many(1, number(1))},
		"9: more keys than values": object([]string{"a", "b"}, number(1)),
		"9: more values than keys": object([]string{"a"}, number(1), number(2)),
		"9: keys that sink":        object([]string{"b", "a"}, number(1), number(2)),
		"9: a key twice":           object([]string{"a", "a"}, number(1), number(2)),
	}
}

// eachWrong does something with each value that may not be and its error.
func eachWrong(t *testing.T, do func(what string, v api.Value, e api.Errno)) {
	t.Helper()
	for what, v := range wrong() {
		no, _ := strconv.Atoi(what[:strings.IndexByte(what, ':')])
		e := api.Errno(no)
		if got := value.Check(v); got != e {
			t.Fatalf("the test's own value is another: %s: error %d", what, got)
		}
		do(what, v, e)
	}
}

// wantText answers the text of a text, as the chapter says, octet by octet.
func wantText(s string) string {
	out := []byte(`"`)
	for i := range len(s) {
		switch c := s[i]; {
		case c == '"':
			out = append(out, `\"`...)
		case c == '\\':
			out = append(out, `\\`...)
		case c == 0x08:
			out = append(out, `\b`...)
		case c == 0x09:
			out = append(out, `\t`...)
		case c == 0x0a:
			out = append(out, `\n`...)
		case c == 0x0c:
			out = append(out, `\f`...)
		case c == 0x0d:
			out = append(out, `\r`...)
		case c < 0x20 || c == 0x7f:
			out = fmt.Appendf(out, `\u%04x`, c)
		default:
			out = append(out, c)
		}
	}
	return string(append(out, '"'))
}

// wantCompact answers the text of a value that may be, without white space.
func wantCompact(v api.Value) string {
	switch v.Kind {
	case 3:
		out, _ := dec.Print(v.Num)
		return out
	case 4:
		return wantText(v.Text)
	case 5:
		var out []string
		for _, part := range v.List {
			out = append(out, wantCompact(part))
		}
		return "[" + strings.Join(out, ",") + "]"
	case 6:
		var out []string
		for i, key := range v.Keys {
			out = append(out, wantText(key)+":"+wantCompact(v.List[i]))
		}
		return "{" + strings.Join(out, ",") + "}"
	}
	return []string{"null", "false", "true"}[v.Kind]
}

// wantIndent answers the text of a value that may be, laid out by the library: it lays out JSON in the same way.
func wantIndent(v api.Value, n int) string {
	compact := wantCompact(v)
	if n == 0 {
		return compact
	}
	var out bytes.Buffer
	if err := json.Indent(&out, []byte(compact), "", times(" ", n)); err != nil {
		panic(err)
	}
	return out.String()
}

// wantASCII answers the text of a value that may be, without characters above 7f.
func wantASCII(v api.Value) string {
	var out []byte
	for _, char := range wantCompact(v) {
		if char < 0x80 {
			out = append(out, byte(char))
			continue
		}
		for _, half := range utf16.Encode([]rune{char}) {
			out = fmt.Appendf(out, `\u%04x`, half)
		}
	}
	return string(out)
}

// show answers what is told, for a person, cut short.
func show(told any) string {
	out := fmt.Sprintf("%+q", told)
	return out[:min(len(out), 200)]
}

// checkText holds a text that a call told of something and its error against those that should be.
func checkText(t *testing.T, call string, of any, got string, e api.Errno, want string, wantE api.Errno) {
	t.Helper()
	if got != want || e != wantE {
		t.Errorf("%s of %s: %d octets %s, error %d, not %d octets %s, error %d", call, show(of), len(got), show(got), e, len(want), show(want), wantE)
	}
}

// checkCompact holds Compact of v, and Indent of it by 0, against what should be told.
func checkCompact(t *testing.T, v api.Value, want string, wantE api.Errno) {
	t.Helper()
	got, e := Compact(v)
	checkText(t, "Compact", v, got, e, want, wantE)
	checkIndent(t, v, 0, want, wantE)
}

func checkIndent(t *testing.T, v api.Value, n int, want string, wantE api.Errno) {
	t.Helper()
	got, e := Indent(v, n)
	checkText(t, "Indent by "+strconv.Itoa(n), v, got, e, want, wantE)
}

// endings are the last values of lists that are as long as may be, so that each kind of octet is the one for which there is no room.
func endings() []api.Value {
	deep := nested(60, list(), inList, inObject)
	return []api.Value{{}, value.Bool(false), value.Bool(true), number(7), decimal("1e-1000"), text(""), text("ab"), text("\x01"), text("\u00e9"), text("\U0001f600"), text("\n"), list(), object(nil), list(number(1)), object([]string{"a"}, number(1)), object([]string{"\x7f"}, list(list(), number(2))), deep}
}

// sized answers a list whose text, by the layout that is told, has so many octets; last is its last value.
func sized(octets int, last api.Value, layout func(v api.Value) string) api.Value {
	const filled, padded = 60, 8
	v := list(slices.Concat(many(padded, text("")), many(filled, text(times("x", 16000))), many(1, last))...)
	left := octets - len(layout(v))
	for i := range padded {
		part := left / (padded - i)
		v.List[i] = text(times("y", part))
		left -= part
	}
	if e := value.Check(v); e != api.OK {
		panic(fmt.Sprint("no value has so many octets: ", octets, e))
	}
	return v
}

// grown answers a list that sized answered, with so many octets more.
func grown(v api.Value, octets int) api.Value {
	v.List = slices.Clone(v.List)
	v.List[0] = text(v.List[0].Text + times("y", octets))
	return v
}
