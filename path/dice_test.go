package path

import (
	"slices"

	"bolter/api"
	"bolter/value"
)

// shuffled answers paths in another order.
func (d *dice) shuffled(paths [][]api.Value) [][]api.Value {
	out := slices.Clone(paths)
	for i := range out {
		j := d.below(i + 1)
		out[i], out[j] = out[j], out[i]
	}
	return out
}

// someKeys are few, so that many are there.
func someKeys() []string {
	return []string{"", "a", "ab", "b", "end", "start", "é"}
}

// value gives a value that may be, at most so deep.
func (d *dice) value(deep int) api.Value {
	switch n := d.below(14); {
	case n < 2:
		return value.Bool(n == 0)
	case n < 4:
		return api.Value{}
	case n < 5 || n < 8 && deep == 0:
		return number(d.below(7) - 3)
	case n < 7 || deep == 0:
		return text(pick(d, []string{"", "a", "abc", "é€\U0001f600z", "aéb"}))
	case n < 11:
		var l []api.Value
		for range d.below(5) {
			l = append(l, d.value(deep-1))
		}
		return list(l...)
	}
	out := object(nil)
	for _, key := range someKeys() {
		if d.below(2) == 0 {
			out.Keys = append(out.Keys, key)
			out.List = append(out.List, d.value(deep-1))
		}
	}
	return out
}

// number gives a number around the places of short lists, seldom one far away.
func (d *dice) number() api.Value {
	if d.below(20) == 0 {
		return one(pick(d, []string{"4095", "4096", "-4096", "1e300", "-1e300", "9007199254740992", "-9007199254740993", "18446744073709551617", "-18446744073709551615"}))
	}
	if d.below(4) == 0 {
		return one(pick(d, []string{"0.5", "-0.5", "1.25", "-1.25", "2.75", "-2.75", "1e-9", "-1e-9", "3.999"}))
	}
	return number(d.below(9) - 4)
}

// end gives an end of a slice, seldom something else.
func (d *dice) end() api.Value {
	switch d.below(20) {
	case 0:
		return d.value(1)
	case 1, 2, 3, 4, 5:
		return api.Value{}
	}
	return d.number()
}

// step gives a step, seldom something else.
func (d *dice) step() api.Value {
	switch n := d.below(20); {
	case n < 8:
		return text(pick(d, someKeys()))
	case n < 15:
		return d.number()
	case n < 19:
		return sliced(d.end(), d.end())
	}
	return d.value(2)
}

// path gives steps that may lead nowhere.
func (d *dice) path() []api.Value {
	var out []api.Value
	for range d.below(5) {
		out = append(out, d.step())
	}
	return out
}

// pathIn gives steps most of which lead to something in v.
func (d *dice) pathIn(v api.Value) []api.Value {
	var out []api.Value
	for d.below(6) > 0 {
		step := d.step()
		switch at := d.below(len(v.List) + 1); {
		case v.Kind == 5 && d.below(4) == 0:
			step = sliced(d.number(), d.number())
		case at == len(v.List) || d.below(10) == 0:
		case v.Kind == 5:
			step = number(pick(d, []int{at, at - len(v.List)}))
		case v.Kind == 6:
			step = text(v.Keys[at])
		}
		there, e := Index(v, step)
		out = append(out, step)
		if e != api.OK {
			return out
		}
		v = there
	}
	return out
}

// models answers the models of values.
func models(l []api.Value) []any {
	var out []any
	for _, v := range l {
		out = append(out, model(v))
	}
	return out
}

// modelPaths answers the models of paths.
func modelPaths(paths [][]api.Value) [][]any {
	var out [][]any
	for _, path := range paths {
		out = append(out, models(path))
	}
	return out
}

// spoiled answers v, in other lists, with something at one place of it that its kind may not have.
func (d *dice) spoiled(v api.Value) api.Value {
	v.List, v.Keys = slices.Clone(v.List), slices.Clone(v.Keys)
	if len(v.List) > 0 && d.below(3) > 0 {
		at := d.below(len(v.List))
		v.List[at] = d.spoiled(v.List[at])
		return v
	}
	switch d.below(6) {
	case 0:
		v.Kind = d.below(12) - 3
	case 1:
		v.Text += pick(d, []string{"a", "\xff", "é", "\xc3"})
	case 2:
		v.Keys = append(v.Keys, pick(d, someKeys()))
	case 3:
		v.List = append(v.List, number(d.below(3)))
	case 4:
		v.Num.Exp += d.below(3) - 1
	case 5:
		v.Num.Coef = append(slices.Clone(v.Num.Coef), uint32(d.below(3)))
	}
	return v
}
