package arith

import (
	"slices"

	"bolter/api"
	"bolter/value"
)

// someKeys are few, so that two objects have some in common.
func someKeys() []string {
	return []string{"", "a", "ab", "b", "z", "é"}
}

// scalar gives a value that holds none.
func (d *dice) scalar() api.Value {
	switch n := d.below(14); {
	case n < 1:
		return value.Bool(d.below(2) == 0)
	case n < 2:
		return api.Value{}
	case n < 8:
		return d.number()
	}
	return d.text()
}

// number gives a number, most often one that is near to 0.
func (d *dice) number() api.Value {
	if d.below(3) == 0 {
		return one(pick(d, []string{"0", "1", "0.5", "-0.5", "0.99", "1.5", "-1", "2.75", "-7.25", "3.999", "5000", "16384", "16385", "1e20", "-1e20", "123456789012345678901", "0.000001"}))
	}
	return num(d.below(9) - 3)
}

// text gives a text of few characters, that often stands in others.
func (d *dice) text() api.Value {
	out := ""
	for range d.below(7) {
		out += pick(d, []string{"a", "a", "a", "b", ",", "é", "€"})
	}
	if d.below(3) == 0 {
		out = pick(d, []string{"", "a", "aa", "aba", "é", "ab"})
	}
	return text(out)
}

// value gives a value that may be, at most so deep.
func (d *dice) value(deep int) api.Value {
	n := d.below(4)
	if deep == 0 || n < 1 {
		return d.scalar()
	}
	if n == 1 {
		return d.list(deep)
	}
	return d.object(deep)
}

func (d *dice) list(deep int) api.Value {
	out := list()
	for range d.below(6) {
		out.List = append(out.List, d.value(deep-1))
	}
	return out
}

func (d *dice) object(deep int) api.Value {
	out := object(nil)
	for _, key := range someKeys() {
		if d.below(2) == 0 {
			out.Keys = append(out.Keys, key)
			out.List = append(out.List, d.value(deep-1))
		}
	}
	return out
}

// two gives two values, most often of kinds that go together.
func (d *dice) two() (api.Value, api.Value) {
	switch d.below(8) {
	case 0:
		return d.value(3), d.value(3)
	case 1:
		return d.number(), d.number()
	case 2:
		return d.text(), d.text()
	case 3:
		return d.text(), d.number()
	case 4:
		return d.number(), d.text()
	case 5:
		return d.object(4), d.object(4)
	}
	// Of the second list some values are those of the first.
	a, b := d.list(3), d.list(2)
	for _, part := range slices.Concat(a.List, a.List) {
		switch d.below(3) {
		case 0:
			b.List = append(b.List, part)
		case 1:
			a.List = append(a.List, part)
		}
	}
	return a, b
}

// spoiled answers v, in other lists, with something at one place of it that its kind may not have.
func (d *dice) spoiled(v api.Value) api.Value {
	v.List, v.Keys = slices.Clone(v.List), slices.Clone(v.Keys)
	if len(v.List) > 0 && d.below(3) > 0 {
		at := d.below(len(v.List))
		v.List[at] = d.spoiled(v.List[at])
		return v
	}
	switch d.below(6) {
	case 0:
		v.Kind = d.below(12) - 3
	case 1:
		v.Text += pick(d, []string{"a", "\xff", "é", "\xc3"})
	case 2:
		v.Keys = append(v.Keys, pick(d, someKeys()))
	case 3:
		v.List = append(v.List, num(d.below(3)))
	case 4:
		v.Num.Exp += d.below(3) - 1
	case 5:
		v.Num.Coef = append(slices.Clone(v.Num.Coef), uint32(d.below(3)))
	}
	return v
}
