package arith

import (
	"slices"
	"strings"
	"testing"

	"bolter/api"
	"bolter/path"
	"bolter/value"
)

// joined puts texts together again, with another one between.
func joined(t *testing.T, parts []api.Value, between api.Value) api.Value {
	t.Helper()
	out := text("")
	for i, part := range parts {
		if i > 0 {
			out = sure(t, call{"Add", Add}, out, between)
		}
		out = sure(t, call{"Add", Add}, out, part)
	}
	return out
}

// sure answers what a call tells, which is no error.
func sure(t *testing.T, c call, a, b api.Value) api.Value {
	t.Helper()
	out, e := c.do(a, b)
	if e != api.OK {
		t.Errorf("%s of %s: error %d", c.name, showAll(a, b), e)
	}
	return out
}

// TestP113Cut: a text that was cut comes together again with what it was cut at, and that stands in none of its parts.
func TestP113Cut(t *testing.T) {
	d := dice(1131)
	cut := 0
	for range 20000 {
		a, b := d.text(), d.text()
		parts := sure(t, div(), a, b).List
		if back := joined(t, parts, b); !same(back, a) {
			t.Errorf("%s, cut at %s: %s, together %s", show(a), show(b), showAll(parts...), show(back))
		}
		for _, part := range parts {
			if b.Text != "" && strings.Contains(part.Text, b.Text) || b.Text == "" && len([]rune(part.Text)) != 1 {
				t.Errorf("%s, cut at %s: %s", show(a), show(b), showAll(parts...))
			}
		}
		if len(parts) > 2 && b.Text != "" {
			cut++
		}
	}
	if cut < 500 {
		t.Error("too few texts were cut:", cut)
	}
}

// TestP113Joined: what was joined by a text that stands in no part comes apart into the parts.
func TestP113Joined(t *testing.T) {
	d := dice(1132)
	for range 5000 {
		var parts []api.Value
		for range d.below(6) + 2 {
			parts = append(parts, text(strings.ReplaceAll(d.text().Text, ",", "")))
		}
		for _, between := range read(`"," ",," "\u0000" "c" "😀"`) {
			div().check(t, joined(t, parts, between), between, as(list(parts...)))
		}
	}
}

// TestP113Lists: lists that were put together have as many values as both, the first one's ahead.
func TestP113Lists(t *testing.T) {
	d := dice(1133)
	for range 5000 {
		a, b := d.list(3), d.list(3)
		sum := sure(t, add(), a, b)
		if len(sum.List) != len(a.List)+len(b.List) || value.Size(sum) != value.Size(a)+value.Size(b)-1 {
			t.Errorf("Add of %s: %s", showAll(a, b), show(sum))
		}
		front, _ := path.Slice(sum, num(0), num(len(a.List)))
		back, _ := path.Slice(sum, num(len(a.List)), api.Value{})
		if !same(front, a) || !same(back, b) {
			t.Errorf("Add of %s: %s", showAll(a, b), show(sum))
		}
		// What was put behind is taken away again, with all that is like it.
		less := sure(t, sub(), sum, b)
		if !same(less, sure(t, sub(), a, b)) || len(sure(t, sub(), sum, sum).List) > 0 {
			t.Errorf("Sub of Add of %s: %s", showAll(a, b), show(less))
		}
	}
}

// TestP113Texts: texts that were put together have as many octets as both; so many times a text is cut at it so many times.
func TestP113Texts(t *testing.T) {
	d := dice(1134)
	for range 2000 {
		a, b := d.text(), d.text()
		if sum := sure(t, add(), a, b); sum.Text != a.Text+b.Text {
			t.Errorf("Add of %s: %s", showAll(a, b), show(sum))
		}
		times := d.below(5) + 1
		again := sure(t, call{"Mul", Mul}, a, num(times))
		if want, _ := Sum(many(times, a)...); !same(again, want) {
			t.Errorf("Mul of %s: %s", showAll(a, num(times)), show(again))
		}
		if a.Text != "" {
			div().check(t, again, a, as(list(many(times+1, text(""))...)))
		}
	}
}

// TestP113Numbers: a sum less what was added, a product by what it was multiplied with.
func TestP113Numbers(t *testing.T) {
	d := dice(1135)
	for range 3000 {
		a, b := d.number(), d.number()
		sub().check(t, sure(t, add(), a, b), b, as(a))
		if !same(b, num(0)) {
			div().check(t, sure(t, mul(), a, b), b, as(a))
		}
		less, _ := Neg(b)
		add().check(t, a, less, told{sure(t, sub(), a, b), api.OK})
		checkNeg(t, less, as(b))
	}
}

// TestP113Objects: the product of objects has what their leaves tell; of a sum all keys are those of both.
func TestP113Objects(t *testing.T) {
	d := dice(1136)
	for range 3000 {
		a, b := d.object(4), d.object(4)
		keys := slices.Compact(slices.Sorted(slices.Values(slices.Concat(a.Keys, b.Keys))))
		sum, product := sure(t, add(), a, b), sure(t, mul(), a, b)
		if !slices.Equal(sum.Keys, keys) || !slices.Equal(product.Keys, keys) {
			t.Errorf("keys of %s: %v, %v", showAll(a, b), sum.Keys, product.Keys)
		}
		leaves, _ := path.Leaves(b)
		for _, steps := range leaves {
			want, _ := path.Get(b, steps)
			got, e := path.Get(product, steps)
			if want.Kind != 6 {
				checkTold(t, "what the product has at "+showAll(steps...), got, e, as(want), a, b)
			}
		}
		mul().check(t, a, a, as(a))
		add().check(t, a, a, as(a))
	}
}
