package reader

import (
	"bytes"
	"encoding/json"
	"fmt"
	"maps"
	"slices"
	"strconv"
	"strings"
	"testing"

	"bolter/api"
	"bolter/dec"
	"bolter/value"
)

// dice gives numbers that look like chance and are the same in every run.
type dice uint64

func (d *dice) below(n int) int {
	*d = *d*6364136223846793005 + 1442695040888963407
	return int(*d>>33) % n
}

func pick[T any](d *dice, l []T) T {
	return l[d.below(len(l))]
}

// These put values together.
func number(n int) api.Value              { return value.Number(n) }
func text(s string) api.Value             { return value.Text(s) }
func list(l ...api.Value) api.Value       { return value.List(l...) }
func many(n int, v api.Value) []api.Value { return slices.Repeat([]api.Value{v}, n) }
func times(s string, n int) string        { return strings.Repeat(s, n) }

// object takes a key and its value by turns, the keys rising.
func object(l ...any) api.Value {
	out := api.Value{Kind: 6}
	for i := 0; i < len(l); i += 2 {
		out.Keys = append(out.Keys, l[i].(string))
		out.List = append(out.List, l[i+1].(api.Value))
	}
	return out
}

func decimal(s string) api.Value {
	num, e := dec.Parse(s)
	if e != api.OK {
		panic(s)
	}
	return api.Value{Kind: 3, Num: num}
}

// same tells whether two values are the same in each field.
func same(a, b api.Value) bool {
	return a.Kind == b.Kind && a.Text == b.Text && a.Num.Neg == b.Num.Neg && a.Num.Exp == b.Num.Exp &&
		slices.Equal(a.Num.Coef, b.Num.Coef) && slices.Equal(a.Keys, b.Keys) && slices.EqualFunc(a.List, b.List, same)
}

func sameList(a, b []api.Value) bool {
	return slices.EqualFunc(a, b, same)
}

// show answers what is told, for a person, cut short.
func show(told any) string {
	out := fmt.Sprintf("%q", told)
	return out[:min(len(out), 200)]
}

// checkValue holds that all of b is a value: as Next tells it and as Read does, between other things and with white space around.
func checkValue(t *testing.T, b string, want api.Value) {
	t.Helper()
	if v, end, is, e := Next([]byte(b), 0); !same(v, want) || end != len(b) || !is || e != api.OK {
		t.Errorf("Next of %s: %s, %d, %v, error %d, not %s, %d", show(b), show(v), end, is, e, show(want), len(b))
	}
	if v, n, e := Read([]byte(b)); !same(v, want) || n != len(b) || e != api.OK {
		t.Errorf("Read of %s: %s, %d, error %d, not %s, %d", show(b), show(v), n, e, show(want), len(b))
	}
	if len(b)+6 > api.MaxBytes {
		return
	}
	if v, end, is, e := Next([]byte("]]1 "+b+" x"), 3); !same(v, want) || end != len(b)+4 || !is || e != api.OK {
		t.Errorf("Next of %s between others: %s, %d, %v, error %d, not %s, %d", show(b), show(v), end, is, e, show(want), len(b)+4)
	}
	if e := value.Check(want); e != api.OK {
		t.Errorf("%s may not be: error %d", show(want), e)
	}
}

// checkFault holds that b begins no value, by a fault at a place: as Next tells it, Read and All; and wherever b stands.
func checkFault(t *testing.T, b string, place int, want api.Errno) {
	t.Helper()
	if v, at, is, e := Next([]byte(b), 0); !same(v, api.Value{}) || at != place || is || e != want {
		t.Errorf("Next of %s: %s, %d, %v, error %d, not %d, error %d", show(b), show(v), at, is, e, place, want)
	}
	if v, at, e := Read([]byte(b)); !same(v, api.Value{}) || at != place || e != want {
		t.Errorf("Read of %s: %s, %d, error %d, not %d, error %d", show(b), show(v), at, e, place, want)
	}
	if len(b)+4 > api.MaxBytes {
		return
	}
	if v, at, is, e := Next([]byte("]] \n"+b), 2); !same(v, api.Value{}) || at != place+4 || is || e != want {
		t.Errorf("Next of %s behind others: %s, %d, %v, error %d, not %d, error %d", show(b), show(v), at, is, e, place+4, want)
	}
	if l, at, e := All([]byte("1\t[]" + b)); !sameList(l, []api.Value{number(1), list()}) || at != place+4 || e != want {
		t.Errorf("All of two values and %s: %s, %d, error %d, not %d, error %d", show(b), show(l), at, e, place+4, want)
	}
}

// decoded answers the value of a text that is one, as the library reads it.
func decoded(t *testing.T, b []byte) api.Value {
	t.Helper()
	from := json.NewDecoder(bytes.NewReader(b))
	from.UseNumber()
	var out any
	if err := from.Decode(&out); err != nil {
		t.Fatalf("the library does not read %s: %v", show(b), err)
	}
	return valueOf(out)
}

func valueOf(told any) api.Value {
	switch told := told.(type) {
	case bool:
		return value.Bool(told)
	case json.Number:
		return decimal(string(told))
	case string:
		return text(told)
	case []any:
		out := api.Value{Kind: 5}
		for _, part := range told {
			out.List = append(out.List, valueOf(part))
		}
		return out
	case map[string]any:
		out := api.Value{Kind: 6, Keys: slices.Sorted(maps.Keys(told))}
		for _, key := range out.Keys {
			out.List = append(out.List, valueOf(told[key]))
		}
		return out
	}
	return api.Value{}
}

func someTexts() []string {
	return []string{"", "a", "b", "ab", "\"", "\\", "/", "\x00", "\b\f\n\r\t", "\x1f \x7f", "\u0080", "\u00e9", "\u07ff", "\u0800", "\ud7ff", "\ue000", "\ufffd", "\uffff", "\U00010000", "\U0001f600", "\U0010ffff", "\\u0041", "null", "[1,2]"}
}

func someNumbers() []string {
	return []string{"0", "-0", "1", "-1", "10", "12", "1.5", "-0.25", "2.50", "1e3", "1E3", "1e+3", "1e-3", "-12.50E-007", "0e9", "0.0", "1e1000", "1e-1000", "123456789012345678901234567890", times("9", 300), "1" + times("0", 1000), "0." + times("0", 999) + "1"}
}

// value gives a value, at most so deep.
func (d *dice) value(deep int) api.Value {
	switch n := d.below(12); {
	case n < 2:
		return value.Bool(n == 0)
	case n == 2:
		return api.Value{}
	case n < 5:
		return decimal(pick(d, someNumbers()))
	case n < 7 || deep == 0:
		return text(pick(d, someTexts()) + pick(d, someTexts()))
	case n < 9:
		var l []api.Value
		for range d.below(5) {
			l = append(l, d.value(deep-1))
		}
		return list(l...)
	}
	out := api.Value{Kind: 6}
	for _, key := range slices.Sorted(slices.Values(someTexts())) {
		if d.below(6) == 0 {
			out.Keys = append(out.Keys, key)
			out.List = append(out.List, d.value(deep-1))
		}
	}
	return out
}

// space gives white space, mostly none.
func (d *dice) space() string {
	return pick(d, []string{"", "", "", "", " ", "\t", "\n", "\r", "\r\n ", "  \t"})
}

// written gives a text of v, one of many.
func (d *dice) written(v api.Value) string {
	switch v.Kind {
	case 3:
		out, _ := dec.Print(v.Num)
		if d.below(3) == 0 && !strings.Contains(out, "e") {
			out += pick(d, []string{"e0", "E0", "e+0", "e-0", "E-000"})
		}
		return out
	case 4:
		return d.writtenText(v.Text)
	case 5:
		var out []string
		for _, part := range v.List {
			out = append(out, d.space()+d.written(part)+d.space())
		}
		return "[" + d.space() + strings.Join(out, ",") + "]"
	case 6:
		var out []string
		for i, key := range v.Keys {
			if d.below(6) == 0 {
				// It stands twice: the last one counts.
				out = append(out, d.writtenText(key)+":"+d.written(d.value(1)))
			}
			out = append(out, d.space()+d.writtenText(key)+d.space()+":"+d.space()+d.written(v.List[i])+d.space())
		}
		return "{" + d.space() + strings.Join(out, ",") + "}"
	}
	return []string{"null", "false", "true"}[v.Kind]
}

// writtenText gives a text of s: characters as they are, or as escapes.
func (d *dice) writtenText(s string) string {
	out := `"`
	for _, char := range s {
		short := strings.IndexRune("\"\\/\b\f\n\r\t", char)
		switch {
		case short >= 0 && (short < 2 || char < 0x20 || d.below(2) == 0) && d.below(4) > 0:
			out += "\\" + `"\/bfnrt`[short:short+1]
		case char < 0x20 || char == '"' || char == '\\' || d.below(4) == 0:
			out += d.coded(char)
		default:
			out += string(char)
		}
	}
	return out + `"`
}

// coded gives an escape of a character by its digits, small ones and great ones.
func (d *dice) coded(char rune) string {
	if char > 0xffff {
		return d.coded(0xd800+(char-0x10000)>>10) + d.coded(0xdc00+(char-0x10000)&0x3ff)
	}
	digits := strconv.FormatInt(int64(0x10000+char), 16)[1:]
	if d.below(2) == 0 {
		digits = strings.ToUpper(digits)
	}
	return `\u` + digits
}

// edges are octets at which something begins, ends or goes wrong.
func edges() string {
	return "[]{},:\"\\/ \t\n\r\x00\x1f\x20\x7f+-.019eEabcdfnrtux_lsgGzZ\x80\x8f\x90\x9f\xa0\xa9\xbf\xc0\xc1\xc3\xdf\xe0\xe2\xed\xef\xf0\xf4\xf5\xff"
}

// spoiled gives b with something else at some places, or cut off.
func (d *dice) spoiled(b string) string {
	for range 1 + d.below(2) {
		at := d.below(len(b) + 1)
		octet := string(edges()[d.below(len(edges()))])
		switch rest := b[at:]; d.below(5) {
		case 0:
			b = b[:at]
		case 1:
			b = b[:at] + octet + rest
		case 2:
			b = b[:at] + rest[min(1, len(rest)):]
		case 3:
			b = b[:at] + pick(d, fragments()) + rest
		case 4:
			b = b[:at] + octet + rest[min(1, len(rest)):]
		}
	}
	return b
}

// fragments are what texts are made of, and pieces of it.
func fragments() []string {
	return []string{"[", "]", "{", "}", ",", ":", "\"", "\"a\"", "\"a\":", "\"b\":1,", "a", "1", "0", "-", "-1", ".", ".5", "e", "E", "e+", "1e999", "1e9999999", "null", "nul", "true", "fals", "false", " ", "\n", "\\", "\\\"", "\\n", "\\u", "\\u00e9", "\\ud83d", "\\ude00", "\\uD83D\\uDE00", "d8", "dc", "\\x", "\\u00g", "\u00e9", "\xc3", "\xa9", "\xf0\x9f", "\xed\xa0", "\xff", "\x01", "\x7f"}
}
