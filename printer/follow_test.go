package printer

import (
	"slices"
	"testing"

	"bolter/api"
	"bolter/reader"
	"bolter/value"
)

// same tells whether two values are the same in each field.
func same(a, b api.Value) bool {
	return a.Kind == b.Kind && a.Text == b.Text && a.Num.Neg == b.Num.Neg && a.Num.Exp == b.Num.Exp &&
		slices.Equal(a.Num.Coef, b.Num.Coef) && slices.Equal(a.Keys, b.Keys) && slices.EqualFunc(a.List, b.List, same)
}

// checkBack holds that a text that a call told is read as the value that it was told of.
func checkBack(t *testing.T, call string, v api.Value, told string, e api.Errno) {
	t.Helper()
	got, n, f := reader.Read([]byte(told))
	if e != api.OK || f != api.OK || n != len(told) || !same(got, v) {
		t.Errorf("%s of %s, error %d: %s is read as %s, %d, error %d", call, show(v), e, show(told), show(got), n, f)
	}
}

// checkAllBack holds v against what each call prints, if it can be read.
func checkAllBack(t *testing.T, v api.Value) {
	t.Helper()
	told, e := Compact(v)
	checkBack(t, "Compact", v, told, e)
	told, e = ASCII(v)
	if len(told) <= api.MaxBytes {
		checkBack(t, "ASCII", v, told, e)
	}
	for n := range api.MaxIndent + 1 {
		told, e = Indent(v, n)
		if e != api.ErrLong && len(told) <= api.MaxBytes {
			checkBack(t, "Indent", v, told, e)
		}
	}
	if v.Kind == 4 {
		told, e = Quote(v.Text)
		checkBack(t, "Quote", v, told, e)
	}
}

func TestP93Back(t *testing.T) {
	for _, v := range someValues() {
		checkAllBack(t, v)
	}
	d := dice(97)
	for range 3000 {
		checkAllBack(t, d.value(6))
	}
}

// TestP93Characters: each character there is, alone and with others in one text.
func TestP93Characters(t *testing.T) {
	var all []api.Value
	part := ""
	for char := range rune(0x110000) {
		if char >= 0xd800 && char < 0xe000 {
			continue
		}
		part += string(char)
		if len(part) > 1000 || char == 0x10ffff {
			all = append(all, text(part), object([]string{part}, text(string(char))))
			part = ""
		}
	}
	for _, v := range all {
		checkAllBack(t, v)
	}
}

// TestP93Edges: as many octets as can be read, as many values as one may have, as deep as it may be.
func TestP93Edges(t *testing.T) {
	some := many(api.MaxBytes/api.MaxText-1, text(times("a", api.MaxText)))
	left := api.MaxBytes - len(wantCompact(list(append(some, text(""))...)))
	checkAllBack(t, list(append(some, text(times("b", left)))...))
	whole := list(append(many(3, list(many(4096, number(1))...)), list(many(4091, number(2))...))...)
	if value.Size(whole) != api.MaxSize {
		t.Fatalf("the test's own value has another size: %d", value.Size(whole))
	}
	checkAllBack(t, whole)
	checkAllBack(t, nested(api.MaxDepth, text("\u00e9"), behind, inObject))
	checkAllBack(t, nested(api.MaxDepth-1, list(), inObject))
	for _, s := range []string{"1" + times("0", 1000), "0." + times("0", 999) + "1", times("9", 300) + "e1000", "-" + times("9", 300) + "e-1000", "1e-6", "1e-5", "123456e-6", "1e20", "1e21", "1e22", "12e19", "12e20"} {
		checkAllBack(t, decimal(s))
	}
}

func TestP93Lines(t *testing.T) {
	d := dice(98)
	for range 1000 {
		var l []api.Value
		for range d.below(8) {
			l = append(l, d.value(4))
		}
		for n := range api.MaxIndent + 1 {
			told, e := Lines(l, n)
			if len(told) > api.MaxBytes {
				continue
			}
			got, at, f := reader.All([]byte(told))
			if e != api.OK || f != api.OK || at != len(told) || !slices.EqualFunc(got, l, same) {
				t.Fatalf("Lines by %d of %s, error %d: %s is read as %s, %d, error %d", n, show(l), e, show(told), show(got), at, f)
			}
		}
	}
	l := many(api.MaxItems, list(number(1)))
	told, e := Lines(l, 1)
	if got, at, f := reader.All([]byte(told)); e != api.OK || f != api.OK || at != len(told) || !slices.EqualFunc(got, l, same) {
		t.Errorf("%d lines are read as %d, %d, error %d, %d", len(l), len(got), at, e, f)
	}
}
