package texts

import (
	"fmt"
	"slices"
	"strings"
	"testing"

	"bolter/api"
)

// dice gives numbers that look like chance and are the same in every run.
type dice uint64

func (d *dice) below(n int) int {
	*d = *d*6364136223846793005 + 1442695040888963407
	return int(*d>>33) % n
}

func pick[T any](d *dice, l []T) T {
	return l[d.below(len(l))]
}

func times(s string, n int) string { return strings.Repeat(s, n) }

// told is what a call told: of a text, a list, and whether something is, those that it does not tell are zero.
type told struct {
	text string
	list []string
	is   bool
	e    api.Errno
}

func text(s string) told     { return told{text: s} }
func parts(l ...string) told { return told{list: l} }
func truth(is bool) told     { return told{is: is} }
func no(e api.Errno) told    { return told{e: e} }
func (a told) same(b told) bool {
	return a.text == b.text && slices.Equal(a.list, b.list) && a.is == b.is && a.e == b.e
}

// texts are all texts that were told.
func (a told) texts() []string {
	return append([]string{a.text}, a.list...)
}

func (a told) show() string {
	return fmt.Sprintf("%s, %s, %t, error %d", show(a.text), showAll(a.list), a.is, a.e)
}

// show answers a text for a person, cut short.
func show(s string) string {
	if len(s) > 100 {
		return fmt.Sprintf("%+q.. of %d octets", s[:100], len(s))
	}
	return fmt.Sprintf("%+q", s)
}

func showAll(l []string) string {
	var out []string
	for _, s := range l[:min(len(l), 20)] {
		out = append(out, show(s))
	}
	return fmt.Sprintf("%d: [%s]", len(l), strings.Join(out, " "))
}

// call is a call by its name, of so many texts; of Join the last one is what stands between.
type call struct {
	name  string
	count int
	do    func(l ...string) told
}

func (c call) check(t *testing.T, want told, l ...string) {
	t.Helper()
	if got := c.do(l...); !got.same(want) {
		t.Errorf("%s of %s: %s, not %s", c.name, showAll(l), got.show(), want.show())
	}
}

// ofText, ofList and ofTruth make one of what a call answers.
func ofText(s string, e api.Errno) told   { return told{text: s, e: e} }
func ofList(l []string, e api.Errno) told { return told{list: l, e: e} }
func ofTruth(is bool, e api.Errno) told   { return told{is: is, e: e} }

func join(count int) call {
	return call{"Join", count, func(l ...string) told { return ofText(Join(l[:count-1], l[count-1])) }}
}

func repeat(n int) call {
	return call{fmt.Sprint("Repeat by ", n), 1, func(l ...string) told { return ofText(Repeat(l[0], n)) }}
}

func one(name string, do func(s string) (string, api.Errno)) call {
	return call{name, 1, func(l ...string) told { return ofText(do(l[0])) }}
}

func two(name string, do func(s, t string) (string, api.Errno)) call {
	return call{name, 2, func(l ...string) told { return ofText(do(l[0], l[1])) }}
}

func whether(name string, do func(s, t string) (bool, api.Errno)) call {
	return call{name, 2, func(l ...string) told { return ofTruth(do(l[0], l[1])) }}
}

func split() call {
	return call{"Split", 2, func(l ...string) told { return ofList(Split(l[0], l[1])) }}
}
func lines() call     { return call{"Lines", 1, func(l ...string) told { return ofList(Lines(l[0])) }} }
func lower() call     { return one("Lower", Lower) }
func upper() call     { return one("Upper", Upper) }
func trim() call      { return one("Trim", Trim) }
func trimLeft() call  { return two("TrimLeft", TrimLeft) }
func trimRight() call { return two("TrimRight", TrimRight) }
func begins() call    { return whether("Begins", Begins) }
func ends() call      { return whether("Ends", Ends) }
func replace() call {
	return call{"Replace", 3, func(l ...string) told { return ofText(Replace(l[0], l[1], l[2])) }}
}

// calls are all calls, Join of several lengths, Repeat by several numbers.
func calls() []call {
	out := []call{split(), lower(), upper(), begins(), ends(), trimLeft(), trimRight(), trim(), replace(), lines()}
	for _, count := range []int{1, 2, 3, 4, 6} {
		out = append(out, join(count))
	}
	for _, n := range []int{-1 << 63, -1, 0, 1, 2, 7} {
		out = append(out, repeat(n))
	}
	return out
}

// wrong are texts that are none.
func wrong() []string {
	return []string{"\xff", "a\xff", "\xc3", "\x80", "a\xe2\x82", "\xe2\x82b", "\xed\xa0\x80", "\xc0\x80", "\xf4\x90\x80\x80", "\u00e9\xf0\x9f\x98", times("a", api.MaxText+1) + "\xff", "\xff" + times("a", 1<<17)}
}

// someTexts are texts, the edges of octets and of characters among them.
func someTexts() []string {
	return []string{"", "a", "ab", "aa", "aba", ",", ",,", "a,b", " ", "\n", "\n\n", "a\n", "\ta b\r\n", "\x00", "\u00e9", "a\u00e9", "\u20ac", "\U0001f600", "A", "Z", "\ufffd", times("ab,", 50)}
}

// text gives a text of few characters.
func (d *dice) text(most int) string {
	var out strings.Builder
	for range d.below(most + 1) {
		out.WriteString(pick(d, []string{"a", "a", "a", "b", "b", "A", "Z", "z", ",", ",", " ", "\n", "\n", "\t", "\r", "\v", "@", "[", "`", "{", "\u00a0", "\u00e9", "\u00c9", "\u20ac", "\U0001f600", "\u0130", "\u017f", "\u212a"}))
	}
	return out.String()
}

// of gives a text that often stands in s: a piece of it, or a few characters.
func (d *dice) of(s string) string {
	chars := []rune(s)
	from := d.below(len(chars) + 1)
	switch d.below(4) {
	case 0:
		return string(chars[from:min(from+d.below(3), len(chars))])
	case 1:
		return string(chars[from:])
	case 2:
		return string(chars[:from])
	}
	return d.text(2)
}

// some gives texts for a call of so many.
func (d *dice) some(count int) []string {
	out := []string{d.text(pick(d, []int{3, 12, 40}))}
	for len(out) < count {
		out = append(out, d.of(out[0]))
	}
	return out
}
