package kinds

import (
	"slices"

	"bolter/api"
	"bolter/printer"
	"bolter/value"
)

// someKeys are few, so that two objects have some in common; an entry's are among them.
func someKeys() []string {
	return []string{"", "a", "b", "k", "key", "name", "v", "value", "é"}
}

// scalar gives a value that holds none.
func (d *dice) scalar() api.Value {
	switch n := d.below(14); {
	case n < 3:
		return value.Bool(d.below(2) == 0)
	case n < 5:
		return api.Value{}
	case n < 9:
		return d.number()
	}
	return d.text()
}

// number gives a number, most often one that is near to 0.
func (d *dice) number() api.Value {
	if d.below(3) == 0 {
		return one(pick(d, []string{"0", "1", "0.5", "-0.5", "0.99", "1.5", "-1", "2.75", "-7.25", "3.999", "4096", "1e20", "-1e20", "123456789012345678901", "0.000001"}))
	}
	return num(d.below(9) - 3)
}

// text gives a text of few characters, that often stands in others.
func (d *dice) text() api.Value {
	out := ""
	for range d.below(4) {
		out += pick(d, []string{"a", "a", "b", "1", "é", "€", "😀"})
	}
	return text(out)
}

// written gives the JSON text of a value, or one that is none, or nearly.
func (d *dice) written() api.Value {
	out, _ := printer.Compact(d.value(3))
	if d.below(2) == 0 {
		at := d.below(len(out) + 1)
		for at < len(out) && out[at] >= 0x80 {
			at++
		}
		out = out[:at] + pick(d, []string{" ", "\n", "\t", ",", "1", "]", "}", "\"", "[", ":", "-", "null", "0", "."}) + out[at:]
	}
	return text(out)
}

// value gives a value that may be, at most so deep.
func (d *dice) value(deep int) api.Value {
	n := d.below(4)
	if deep == 0 || n < 1 {
		return d.scalar()
	}
	if n == 1 {
		return d.object(deep)
	}
	return d.list(deep)
}

func (d *dice) list(deep int) api.Value {
	out := list()
	for range d.below(5) {
		out.List = append(out.List, d.value(deep-1))
	}
	return out
}

func (d *dice) object(deep int) api.Value {
	out := object(nil)
	for _, key := range someKeys() {
		if d.below(3) == 0 {
			out.Keys = append(out.Keys, key)
			out.List = append(out.List, d.value(deep-1))
		}
	}
	return out
}

// entry gives an object that most often tells a key, one that is null, false, or missing, too.
func (d *dice) entry() api.Value {
	out := object(nil)
	for _, key := range []string{"k", "key", "name", "v", "value"} {
		if d.below(2) == 0 {
			out.Keys = append(out.Keys, key)
			out.List = append(out.List, pick(d, read(`null false true "a" "b" "é" 1 2.50 "true"`)))
		}
	}
	if d.below(40) == 0 {
		return d.value(2)
	}
	return out
}

// lists gives a list of lists, or a list of entries.
func (d *dice) lists() api.Value {
	out := list()
	make := d.entry
	if d.below(2) == 0 {
		make = func() api.Value { return d.list(3) }
	}
	for range d.below(5) {
		out.List = append(out.List, make())
	}
	return out
}

// lessened answers what v often contains: v without some of it.
func (d *dice) lessened(v api.Value) api.Value {
	switch v.Kind {
	case 4:
		chars := []rune(v.Text)
		from := d.below(len(chars) + 1)
		return text(string(chars[from : from+d.below(len(chars)-from+1)]))
	case 5, 6:
		out := api.Value{Kind: v.Kind}
		for i, part := range v.List {
			if d.below(3) == 0 {
				continue
			}
			out.List = append(out.List, d.lessened(part))
			if v.Kind == 6 {
				out.Keys = append(out.Keys, v.Keys[i])
			}
		}
		if v.Kind == 5 && d.below(2) == 0 {
			slices.Reverse(out.List)
		}
		return out
	}
	if d.below(20) == 0 {
		return d.scalar()
	}
	return v
}

// some gives values for a call of so many.
func (d *dice) some(count int) []api.Value {
	if count == 1 {
		return []api.Value{pick(d, []func() api.Value{func() api.Value { return d.value(4) }, d.lists, d.written, d.number, d.text})()}
	}
	switch a := d.value(4); d.below(6) {
	case 0:
		return []api.Value{a, d.value(3)}
	case 1:
		return []api.Value{d.list(2), d.number()}
	case 2:
		return []api.Value{d.object(2), text(pick(d, someKeys()))}
	case 3:
		return []api.Value{d.text(), d.text()}
	case 4:
		b := d.list(3)
		return []api.Value{list(slices.Concat(b.List, d.list(3).List)...), d.lessened(b)}
	default:
		return []api.Value{a, d.lessened(a)}
	}
}

// spoiled answers v, in other lists, with something at one place of it that its kind may not have.
func (d *dice) spoiled(v api.Value) api.Value {
	v.List, v.Keys = slices.Clone(v.List), slices.Clone(v.Keys)
	if len(v.List) > 0 && d.below(3) > 0 {
		at := d.below(len(v.List))
		v.List[at] = d.spoiled(v.List[at])
		return v
	}
	switch d.below(6) {
	case 0:
		v.Kind = d.below(12) - 3
	case 1:
		v.Text += pick(d, []string{"a", "\xff", "é", "\xc3"})
	case 2:
		v.Keys = append(v.Keys, pick(d, someKeys()))
	case 3:
		v.List = append(v.List, num(d.below(3)))
	case 4:
		v.Num.Exp += d.below(3) - 1
	case 5:
		v.Num.Coef = append(slices.Clone(v.Num.Coef), uint32(d.below(3)))
	}
	return v
}
