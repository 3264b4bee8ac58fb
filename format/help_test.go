package format

import (
	"fmt"
	"slices"
	"strings"
	"testing"

	"bolter/api"
	"bolter/printer"
	"bolter/reader"
	"bolter/value"
)

const most = api.MaxText

// dice gives numbers that look like chance and are the same in every run.
type dice uint64

func (d *dice) below(n int) int {
	*d = *d*6364136223846793005 + 1442695040888963407
	return int(*d>>33) % n
}

func pick[T any](d *dice, l []T) T {
	return l[d.below(len(l))]
}

func times(s string, n int) string { return strings.Repeat(s, n) }

// one answers the only value of a JSON text.
func one(s string) api.Value {
	v, _, e := reader.Read([]byte(s))
	if e != api.OK {
		panic(fmt.Sprint("no JSON text: ", s, e))
	}
	return v
}

// These put values together, whether they may be or not.
func num(n int) api.Value                 { return value.Number(n) }
func text(s string) api.Value             { return api.Value{Kind: 4, Text: s} }
func list(l ...api.Value) api.Value       { return api.Value{Kind: 5, List: l} }
func many(n int, v api.Value) []api.Value { return slices.Repeat([]api.Value{v}, n) }
func object(keys []string, l ...api.Value) api.Value {
	return api.Value{Kind: 6, Keys: keys, List: l}
}

// nested puts v into so many lists.
func nested(times int, v api.Value) api.Value {
	for range times {
		v = list(v)
	}
	return v
}

// show answers a value for a person, cut short.
func show(v api.Value) string {
	out, e := printer.Compact(v)
	if e != api.OK {
		out = fmt.Sprintf("(kind %d, text %+q, %d values, no printer's)", v.Kind, v.Text[:min(len(v.Text), 40)], len(v.List))
	}
	return fmt.Sprintf("%s (%d octets)", out[:min(len(out), 200)], len(out))
}

// told is what is told, or should be: a text, or an error.
type told struct {
	text string
	e    api.Errno
}

func as(s string) told      { return told{text: s} }
func no(e api.Errno) told   { return told{e: e} }
func (a told) show() string { return fmt.Sprintf("%s, error %d", show(text(a.text)), a.e) }

// call is one of the calls, of one value; those of texts are handed its text. What is a name of Apply is told by the name of the call.
type call struct {
	name string
	do   func(v api.Value) (string, api.Errno)
}

func ofText(name string, do func(s string) (string, api.Errno)) call {
	return call{name, func(v api.Value) (string, api.Errno) { return do(v.Text) }}
}

func base64() call   { return ofText("Base64", Base64) }
func unbase64() call { return ofText("Unbase64", Unbase64) }
func uri() call      { return ofText("URI", URI) }
func html() call     { return ofText("HTML", HTML) }
func shell() call    { return call{"Shell", Shell} }
func commas() call {
	return call{"Row", func(v api.Value) (string, api.Errno) { return Row(v, false) }}
}
func tabs() call {
	return call{"Row by tabs", func(v api.Value) (string, api.Errno) { return Row(v, true) }}
}
func apply(name string) call {
	return call{"Apply " + name, func(v api.Value) (string, api.Errno) { return Apply(name, v) }}
}

// textCalls are those that are handed a text.
func textCalls() []call { return []call{base64(), unbase64(), uri(), html()} }

// valueCalls are those that are handed a value, each name of Apply, and some that are none.
func valueCalls() []call {
	out := []call{commas(), tabs(), shell()}
	for _, name := range append(allNames(), "", "JSON", "\xff") {
		out = append(out, apply(name))
	}
	return out
}

func calls() []call { return append(textCalls(), valueCalls()...) }

// allNames are those that the chapter lists.
func allNames() []string {
	return []string{"text", "json", "base64", "base64d", "uri", "html", "csv", "tsv", "sh"}
}

func (c call) told(v api.Value) told {
	s, e := c.do(v)
	return told{s, e}
}

// check holds what a call tells of a value against what it should; beside an error there is nothing.
func (c call) check(t *testing.T, want told, v api.Value) {
	t.Helper()
	if got := c.told(v); got != want {
		t.Errorf("%s of %s: %s, not %s", c.name, show(v), got.show(), want.show())
	}
}

// texts holds a call against texts: what is handed in, and what is told of it.
func (c call) texts(t *testing.T, rows [][2]string) {
	t.Helper()
	for _, row := range rows {
		c.check(t, as(row[1]), text(row[0]))
	}
}

// values holds a call against JSON texts of values, and what is told of these.
func (c call) values(t *testing.T, rows [][2]string) {
	t.Helper()
	for _, row := range rows {
		c.check(t, as(row[1]), one(row[0]))
	}
}

// fails holds that a call tells an error of values, by their JSON texts.
func (c call) fails(t *testing.T, e api.Errno, rows ...string) {
	t.Helper()
	for _, row := range rows {
		c.check(t, no(e), one(row))
	}
}

// edge holds that a call tells a text of just MaxText octets of parts behind each other, and ErrLong of one more. One part more makes so many octets more; there is room for so many single ones, each one octet, behind.
func (c call) edge(t *testing.T, part string, wide, parts, rest int) {
	t.Helper()
	full := times(part, parts)
	for n := range rest + 1 {
		if got := c.told(text(full + times("a", n))); got.e != api.OK || len(got.text) != most-rest+n {
			t.Errorf("%s of %d times %+q and %d more: %s", c.name, parts, part, n, got.show())
		}
	}
	c.check(t, no(api.ErrLong), text(full+times("a", rest+1)))
	for _, more := range []int{1, 2, 3, 10, parts, 1 << 17} {
		if wide*more > rest {
			c.check(t, no(api.ErrLong), text(full+times(part, more)))
		}
	}
}

// wrongTexts are texts that are none.
func wrongTexts() []string {
	return []string{"\xff", "a\xff", "\xc3", "\x80", "a\xe2\x82", "\xe2\x82b", "\xed\xa0\x80", "\xc0\x80", "\xf4\x90\x80\x80", "\u00e9\xf0\x9f\x98", "YWI=\xff", times("a", most+1) + "\xff", "\xff" + times("a", 1<<17)}
}

// wrong is a value that may not be, with value.Check's error of it.
type wrong struct {
	v api.Value
	e api.Errno
}

// wrongs are some of each error, among them such as would be another error if they might be.
func wrongs() []wrong {
	return []wrong{
		{api.Value{Kind: 7}, api.ErrKind},
		{api.Value{Kind: -1}, api.ErrKind},
		{text("\xff"), api.ErrText},
		{list(text("a\xc3")), api.ErrText},
		{list(list(), text("\x80")), api.ErrText},
		{object([]string{"\xc3"}, num(1)), api.ErrText},
		{text(times("a", most+1)), api.ErrLong},
		{list(object(nil), text(times("a", most+1))), api.ErrLong},
		{list(many(api.MaxItems+1, num(1))...), api.ErrLong},
		{api.Value{Text: "a"}, api.ErrState},
		{list(list(), api.Value{Kind: 1, List: []api.Value{{}}}), api.ErrState},
		{object([]string{"b", "a"}, num(1), num(2)), api.ErrState},
		{object([]string{"a"}, num(1), num(2)), api.ErrState},
		{list(api.Value{Kind: 3, Num: api.Dec{Coef: []uint32{10}}}), api.ErrState},
		{nested(api.MaxDepth+1, num(1)), api.ErrDepth},
		{list(many(api.MaxSize, num(1))...), api.ErrCount},
	}
}

// someTexts are texts, the edges of octets and of characters among them.
func someTexts() []string {
	return []string{"", "a", "ab", "abc", "abcd", "=", "==", "A===", "YWI=", "YWI", "YQ", "YR==", "/w==", "a b", "%20", "&amp;", "<a href=\"x\">", "it's", "''", "\"", "\"\"", "a,b", "a\tb", "a\\b\n\r\\n", "\n", "\x00", "\x7f", "\u00e9", "a\u00e9", "\u20ac", "\U0001f600", "\ufffd", "true", "null", "12", times("ab,", 50)}
}

// text gives a text of few characters.
func (d *dice) text(most int) string {
	var out strings.Builder
	for range d.below(most + 1) {
		out.WriteString(pick(d, []string{"a", "Z", "0", "9", "-", "_", ".", "~", "+", "/", "=", "&", "<", ">", "'", "'", "\"", "\"", ",", "\t", "\n", "\r", "\\", " ", "%", "$", "`", "!", "\x00", "\x7f", "\u00e9", "\u20ac", "\U0001f600", "\ufffd"}))
	}
	return out.String()
}

// digits gives a text of digits of Base64, most often with no fault.
func (d *dice) digits(most int) string {
	var out strings.Builder
	for range d.below(most + 1) {
		out.WriteString(pick(d, strings.Split("ABCDEFGHIJKLMNOPQRSTUVWXYZabcdefghijklmnopqrstuvwxyz0123456789+/+/+/wwww", "")))
	}
	if d.below(4) == 0 {
		out.WriteString(pick(d, []string{"=", "==", "===", "====", "\n", "-", "=a", " ="}))
	}
	return out.String()
}

// scalar gives a value that holds none.
func (d *dice) scalar() api.Value {
	switch d.below(8) {
	case 0:
		return api.Value{}
	case 1:
		return value.Bool(d.below(2) == 0)
	case 2, 3:
		return one(pick(d, []string{"0", "7", "-1", "0.5", "-1.50", "1e30", "-1e-1000", "123456789012345678901", "1234", "100"}))
	case 4:
		return text(d.digits(9))
	}
	return text(d.text(6))
}

// value gives a value that may be.
func (d *dice) value(deep int) api.Value {
	kind := d.below(6)
	if deep == 0 || kind == 0 {
		return d.scalar()
	}
	out := list()
	for i := range d.below(5) {
		part := d.scalar()
		if d.below(8) == 0 {
			part = d.value(deep - 1)
		}
		out.List = append(out.List, part)
		if kind == 1 {
			out.Kind = 6
			out.Keys = append(out.Keys, fmt.Sprint(i, d.text(2)))
		}
	}
	return out
}

// handed gives a value for a call, most often a text for one of texts.
func (d *dice) handed(c call) api.Value {
	if slices.ContainsFunc(textCalls(), func(other call) bool { return other.name == c.name }) {
		return text(pick(d, []func(int) string{d.text, d.digits})(20))
	}
	return d.value(3)
}
