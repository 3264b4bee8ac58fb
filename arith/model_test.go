package arith

import (
	"maps"
	"math/big"
	"slices"

	"bolter/api"
	"bolter/dec"
	"bolter/quot"
	"bolter/value"
)

// The words of the chapter, written anew over what the library has: nil, bool, *big.Rat, string, []any, map[string]any.

// model answers a value that may be in that form.
func model(v api.Value) any {
	switch v.Kind {
	case 1, 2:
		return v.Kind == 2
	case 3:
		digits, _ := dec.Print(v.Num)
		out, is := new(big.Rat).SetString(digits)
		if !is {
			panic(digits)
		}
		return out
	case 4:
		return v.Text
	case 5:
		out := []any{}
		for _, part := range v.List {
			out = append(out, model(part))
		}
		return out
	case 6:
		out := map[string]any{}
		for i, key := range v.Keys {
			out[key] = model(v.List[i])
		}
		return out
	}
	return nil
}

// unmodel answers the value again.
func unmodel(x any) api.Value {
	switch x := x.(type) {
	case bool:
		return value.Bool(x)
	case *big.Rat:
		return api.Value{Kind: 3, Num: decimal(x)}
	case string:
		return text(x)
	case []any:
		out := list()
		for _, part := range x {
			out.List = append(out.List, unmodel(part))
		}
		return out
	case map[string]any:
		out := object(slices.Sorted(maps.Keys(x)))
		for _, key := range out.Keys {
			out.List = append(out.List, unmodel(x[key]))
		}
		return out
	}
	return api.Value{}
}

// decimal answers the decimal that x is, of some.
func decimal(x *big.Rat) api.Dec {
	out, e := dec.Parse(x.FloatString(120))
	if x.IsInt() {
		out, e = dec.Parse(x.Num().String())
	}
	if e != api.OK {
		panic(x.String())
	}
	return out
}

// wants are what the calls should tell, by their names.
func wants() map[string]func(a, b any) (any, api.Errno) {
	return map[string]func(a, b any) (any, api.Errno){"Add": wantAdd, "Sub": wantSub, "Mul": wantMul, "Div": wantDiv, "Mod": wantMod}
}

func wantAdd(a, b any) (any, api.Errno) {
	if a == nil {
		return b, api.OK
	}
	switch y := b.(type) {
	case nil:
		return a, api.OK
	case *big.Rat:
		if x, is := a.(*big.Rat); is {
			return new(big.Rat).Add(x, y), api.OK
		}
	case string:
		if x, is := a.(string); is {
			return x + y, api.OK
		}
	case []any:
		if x, is := a.([]any); is {
			return slices.Concat([]any{}, x, y), api.OK
		}
	case map[string]any:
		if x, is := a.(map[string]any); is {
			out := maps.Clone(x)
			maps.Copy(out, y)
			return out, api.OK
		}
	}
	return nil, api.ErrType
}

func wantSub(a, b any) (any, api.Errno) {
	switch y := b.(type) {
	case *big.Rat:
		if x, is := a.(*big.Rat); is {
			return new(big.Rat).Sub(x, y), api.OK
		}
	case []any:
		if x, is := a.([]any); is {
			left := slices.Clone(x)
			for _, gone := range y {
				left = slices.DeleteFunc(left, func(part any) bool { return same(unmodel(part), unmodel(gone)) })
			}
			return left, api.OK
		}
	}
	return nil, api.ErrType
}

func wantMul(a, b any) (any, api.Errno) {
	switch y := b.(type) {
	case *big.Rat:
		switch x := a.(type) {
		case *big.Rat:
			return new(big.Rat).Mul(x, y), api.OK
		case string:
			return wantTimes(x, y)
		}
	case string:
		if x, is := a.(*big.Rat); is {
			return wantTimes(y, x)
		}
	case map[string]any:
		if x, is := a.(map[string]any); is {
			return wantMerged(x, y), api.OK
		}
	}
	return nil, api.ErrType
}

// wantTimes answers the text s n times, n made whole downward.
func wantTimes(s string, n *big.Rat) (any, api.Errno) {
	times := new(big.Int).Div(n.Num(), n.Denom())
	octets := new(big.Int).Mul(times, big.NewInt(int64(len(s))))
	switch {
	case times.Sign() <= 0:
		return nil, api.OK
	case s == "":
		return "", api.OK
	case octets.Cmp(big.NewInt(1<<14)) > 0:
		return nil, api.ErrLong
	}
	out := ""
	for range times.Int64() {
		out += s
	}
	return out, api.OK
}

func wantMerged(x, y map[string]any) map[string]any {
	out := maps.Clone(x)
	for key, part := range y {
		was, isObject := out[key].(map[string]any)
		by, too := part.(map[string]any)
		if isObject && too {
			part = wantMerged(was, by)
		}
		out[key] = part
	}
	return out
}

func wantDiv(a, b any) (any, api.Errno) {
	switch y := b.(type) {
	case *big.Rat:
		if x, is := a.(*big.Rat); is {
			return wantNumber(quot.Div(decimal(x), decimal(y)))
		}
	case string:
		if x, is := a.(string); is {
			return wantCut([]rune(x), []rune(y)), api.OK
		}
	}
	return nil, api.ErrType
}

// wantCut answers the text x, cut at each y, character by character.
func wantCut(x, y []rune) []any {
	out := []any{}
	part := []rune{}
	for at := 0; at < len(x); {
		switch {
		case len(y) == 0:
			out = append(out, string(x[at:at+1]))
			at++
		case at+len(y) <= len(x) && slices.Equal(x[at:at+len(y)], y):
			out = append(out, string(part))
			part = nil
			at += len(y)
		default:
			part = append(part, x[at])
			at++
		}
	}
	if len(x) > 0 && len(y) > 0 {
		out = append(out, string(part))
	}
	return out
}

func wantMod(a, b any) (any, api.Errno) {
	x, is := a.(*big.Rat)
	y, too := b.(*big.Rat)
	if !is || !too {
		return nil, api.ErrType
	}
	return wantNumber(quot.Mod(decimal(x), decimal(y)))
}

func wantNumber(n api.Dec, e api.Errno) (any, api.Errno) {
	return model(api.Value{Kind: 3, Num: n}), e
}

// wantOf answers what a call should tell of two values that may be, value.Check's error of the answer, too.
func wantOf(name string, a, b api.Value) told {
	out, e := wants()[name](model(a), model(b))
	v := unmodel(out)
	if e == api.OK {
		e = value.Check(v)
	}
	if e != api.OK {
		return no(e)
	}
	return as(v)
}

// wantSum answers what Sum should tell of values that may be.
func wantSum(l ...api.Value) told {
	var out told
	for _, v := range l {
		out = wantOf("Add", out.v, v)
		if out.e != api.OK {
			break
		}
	}
	return out
}
