package events

import (
	"slices"

	"bolter/api"
	"bolter/value"
)

// someKeys are few, so that two events often go into one object.
func someKeys() []string {
	return []string{"", "0", "a", "ab", "b", "é", "😀"}
}

// scalar gives a value that holds none.
func (d *dice) scalar() api.Value {
	switch n := d.below(10); {
	case n < 2:
		return api.Value{}
	case n < 4:
		return value.Bool(n == 2)
	case n < 7:
		return d.number()
	}
	return text(pick(d, []string{"", "a", "abc", "é€😀z", "[]", "\x00"}))
}

// leaf gives a leaf.
func (d *dice) leaf() api.Value {
	switch d.below(6) {
	case 0:
		return list()
	case 1:
		return object(nil)
	}
	return d.scalar()
}

// number gives a number, most often one that is near to 0.
func (d *dice) number() api.Value {
	switch d.below(12) {
	case 0:
		return one(pick(d, []string{"4095", "4096", "-4096", "4095.5", "1e300", "-1e300", "9007199254740992", "-9007199254740993", "18446744073709551616", "-18446744073709551615"}))
	case 1, 2, 3:
		return one(pick(d, []string{"0.5", "-0.5", "1.25", "-1.25", "2.75", "1e-9", "-1e-9", "3.999", "1e1"}))
	}
	return num(d.below(8) - 2)
}

// value gives a value that may be, at most so deep.
func (d *dice) value(deep int) api.Value {
	n := d.below(5)
	if deep == 0 || n == 0 {
		return d.leaf()
	}
	out := list()
	for range d.below(5) {
		out.List = append(out.List, d.value(deep-1))
	}
	if n < 3 {
		return out
	}
	out = object(nil)
	for _, key := range someKeys() {
		if d.below(3) == 0 {
			out.Keys = append(out.Keys, key)
			out.List = append(out.List, d.value(deep-1))
		}
	}
	return out
}

// step gives a step.
func (d *dice) step() api.Value {
	if d.below(2) == 0 {
		return text(pick(d, someKeys()))
	}
	return d.number()
}

// event gives an event.
func (d *dice) event() api.Value {
	path := list()
	for range d.below(5) {
		path.List = append(path.List, d.step())
	}
	if len(path.List) > 0 && d.below(4) == 0 {
		return list(path)
	}
	return list(path, d.leaf())
}

// noEvent gives a value that may be and seldom is an event, though it often looks nearly like one.
func (d *dice) noEvent() api.Value {
	v := value.List(d.event()).List[0]
	switch d.below(7) {
	case 0:
		return d.value(3)
	case 1:
		v.List = append(v.List, d.leaf())
	case 2:
		v.List[len(v.List)-1] = d.value(2)
	case 3:
		v.List[0] = d.value(1)
	case 4:
		v.List[0].List = append(v.List[0].List, d.value(1))
	case 5:
		v.List = v.List[:d.below(2)]
	case 6:
		v = object([]string{"a", "b"}[:len(v.List)], v.List...)
	}
	return v
}

// written gives the events of a value, as the chapter tells them.
func (d *dice) written(deep int) []api.Value {
	return wantTo(d.value(deep)).l
}

// events gives events: of some values, often with some left out, in another order, or changed.
func (d *dice) events() []api.Value {
	var out []api.Value
	for range d.below(4) {
		out = append(out, d.written(3)...)
	}
	for range d.below(4) {
		at := d.below(len(out) + 1)
		switch n := d.below(8); {
		case n == 0 || at == len(out):
			out = slices.Insert(out, at, d.event())
		case n == 1:
			out = slices.Delete(out, at, at+1)
		case n == 2:
			other := d.below(len(out))
			out[at], out[other] = out[other], out[at]
		case n == 3:
			out = append(out, out[at])
		case n == 4:
			out = out[:at]
		case n == 5 && len(out[at].List[0].List) > 0:
			out[at] = value.List(out[at]).List[0]
			path := out[at].List[0].List
			path[d.below(len(path))] = d.step()
		case n == 6:
			out[at] = list(append([]api.Value{out[at].List[0]}, d.leaf())...)
		}
	}
	return out
}

// negative gives events of a list whose places are counted from the end, and of what stands in it.
func (d *dice) negative() []api.Value {
	var out []api.Value
	for range d.below(8) {
		path := list()
		for range d.below(3) + 1 {
			path.List = append(path.List, pick(d, read(`0 0 0 1 -1 -1 -2 0.5 -0.5 "a"`)))
		}
		out = append(out, list(path, d.leaf()))
	}
	return append(out, list(steps(1, num(0))))
}

// some gives a list of values for a call: a value, events, or nearly.
func (d *dice) some() []api.Value {
	out := pick(d, []func() []api.Value{d.events, d.events, d.negative, func() []api.Value { return []api.Value{d.value(4)} }})()
	if d.below(6) == 0 {
		out = slices.Insert(out, d.below(len(out)+1), d.noEvent())
	}
	if len(out) == 0 {
		return []api.Value{d.value(4)}
	}
	return out
}

// spoiled answers v, in other lists, with something at one place of it that its kind may not have.
func (d *dice) spoiled(v api.Value) api.Value {
	v.List, v.Keys = slices.Clone(v.List), slices.Clone(v.Keys)
	if len(v.List) > 0 && d.below(3) > 0 {
		at := d.below(len(v.List))
		v.List[at] = d.spoiled(v.List[at])
		return v
	}
	switch d.below(6) {
	case 0:
		v.Kind = d.below(12) - 3
	case 1:
		v.Text += pick(d, []string{"a", "\xff", "é", "\xc3"})
	case 2:
		v.Keys = append(v.Keys, pick(d, someKeys()))
	case 3:
		v.List = append(v.List, num(d.below(3)))
	case 4:
		v.Num.Exp += d.below(3) - 1
	case 5:
		v.Num.Coef = append(slices.Clone(v.Num.Coef), uint32(d.below(3)))
	}
	return v
}
