package path

import (
	"maps"
	"math/big"
	"slices"

	"bolter/api"
	"bolter/dec"
	"bolter/value"
)

// The words of the chapter, written anew over what the library has: nil, bool, *big.Rat, string, []any, map[string]any.

// model answers a value that may be in that form.
func model(v api.Value) any {
	switch v.Kind {
	case 1, 2:
		return v.Kind == 2
	case 3:
		digits, _ := dec.Print(v.Num)
		out, is := new(big.Rat).SetString(digits)
		if !is {
			panic(digits)
		}
		return out
	case 4:
		return v.Text
	case 5:
		out := []any{}
		for _, part := range v.List {
			out = append(out, model(part))
		}
		return out
	case 6:
		out := map[string]any{}
		for i, key := range v.Keys {
			out[key] = model(v.List[i])
		}
		return out
	}
	return nil
}

// unmodel answers the value again.
func unmodel(x any) api.Value {
	switch x := x.(type) {
	case bool:
		return value.Bool(x)
	case *big.Rat:
		return api.Value{Kind: 3, Num: decimal(x)}
	case string:
		return api.Value{Kind: 4, Text: x}
	case []any:
		out := api.Value{Kind: 5}
		for _, part := range x {
			out.List = append(out.List, unmodel(part))
		}
		return out
	case map[string]any:
		out := api.Value{Kind: 6, Keys: slices.Sorted(maps.Keys(x))}
		for _, key := range out.Keys {
			out.List = append(out.List, unmodel(x[key]))
		}
		return out
	}
	return api.Value{}
}

// decimal answers the decimal that x is, of some.
func decimal(x *big.Rat) api.Dec {
	out, e := dec.Parse(x.FloatString(20))
	if x.IsInt() {
		out, e = dec.Parse(x.Num().String())
	}
	if e != api.OK {
		panic(x.String())
	}
	return out
}

// stepKind tells what a step is: "key", "place", "slice", or nothing.
func stepKind(step any) string {
	switch step := step.(type) {
	case string:
		return "key"
	case *big.Rat:
		return "place"
	case map[string]any:
		start, is := step["start"]
		end, too := step["end"]
		if is && too && len(step) == 2 && isEnd(start) && isEnd(end) {
			return "slice"
		}
	}
	return ""
}

func isEnd(x any) bool {
	_, is := x.(*big.Rat)
	return is || x == nil
}

// floor answers the greatest whole number not above x.
func floor(x *big.Rat) *big.Int {
	return new(big.Int).Div(x.Num(), x.Denom())
}

// ceil answers the least whole number not below x.
func ceil(x *big.Rat) *big.Int {
	out := floor(new(big.Rat).Neg(x))
	return out.Neg(out)
}

// fromEnd answers x, counted from the end of n if it is below 0.
func fromEnd(x *big.Int, n int) *big.Int {
	if x.Sign() < 0 {
		return new(big.Int).Add(x, big.NewInt(int64(n)))
	}
	return x
}

// within answers x put into 0 to n.
func within(x *big.Int, n int) int {
	if x.Sign() < 0 {
		return 0
	}
	if x.Cmp(big.NewInt(int64(n))) > 0 {
		return n
	}
	return int(x.Int64())
}

// wantSpan answers a slice's places of n.
func wantSpan(step any, n int) (int, int) {
	from, to := 0, n
	if start, is := step.(map[string]any)["start"].(*big.Rat); is {
		from = within(fromEnd(floor(start), n), n)
	}
	if end, is := step.(map[string]any)["end"].(*big.Rat); is {
		to = within(fromEnd(ceil(end), n), n)
	}
	if to < from {
		to = from
	}
	return from, to
}

// wantPlace answers a place of n: below 0, if there is none; at most far.
func wantPlace(step any, n int) int {
	const far = 1 << 40
	at := fromEnd(floor(step.(*big.Rat)), n)
	if at.Sign() < 0 {
		return -1
	}
	return within(at, far)
}

func wantIndex(v, step any) (any, api.Errno) {
	kind := stepKind(step)
	switch v := v.(type) {
	case nil:
		if kind != "" {
			return nil, api.OK
		}
	case map[string]any:
		if kind == "key" {
			return v[step.(string)], api.OK
		}
	case string:
		if kind == "slice" {
			chars := []rune(v)
			from, to := wantSpan(step, len(chars))
			return string(chars[from:to]), api.OK
		}
	case []any:
		switch kind {
		case "place":
			at := wantPlace(step, len(v))
			if at < 0 || at >= len(v) {
				return nil, api.OK
			}
			return v[at], api.OK
		case "slice":
			from, to := wantSpan(step, len(v))
			return v[from:to], api.OK
		}
	}
	return nil, api.ErrType
}

func wantGet(v any, path ...any) (any, api.Errno) {
	for _, step := range path {
		part, e := wantIndex(v, step)
		if e != api.OK {
			return nil, e
		}
		v = part
	}
	return v, api.OK
}

// wantRawPut is Put without its last error.
func wantRawPut(v, step, x any) (any, api.Errno) {
	object, isObject := v.(map[string]any)
	l, isList := v.([]any)
	none := v == nil
	switch kind := stepKind(step); {
	case kind == "key" && (none || isObject):
		out := map[string]any{}
		maps.Copy(out, object)
		out[step.(string)] = x
		return out, api.OK
	case kind == "place" && (none || isList):
		at := wantPlace(step, len(l))
		if at < 0 || at >= 4096 {
			return nil, api.ErrRange
		}
		out := append([]any{}, l...)
		for len(out) <= at {
			out = append(out, nil)
		}
		out[at] = x
		return out, api.OK
	case kind == "slice" && (none || isList):
		by, is := x.([]any)
		if !is {
			return nil, api.ErrType
		}
		from, to := wantSpan(step, len(l))
		out := append([]any{}, l[:from]...)
		out = append(out, by...)
		return append(out, l[to:]...), api.OK
	}
	return nil, api.ErrType
}

func wantPut(v, step, x any) (any, api.Errno) {
	out, e := wantRawPut(v, step, x)
	if e == api.OK {
		e = value.Check(unmodel(out))
	}
	if e != api.OK {
		return nil, e
	}
	return out, api.OK
}

func wantSet(v any, x any, path ...any) (any, api.Errno) {
	if len(path) == 0 {
		return x, api.OK
	}
	there, e := wantIndex(v, path[0])
	if e != api.OK {
		return nil, e
	}
	part, e := wantSet(there, x, path[1:]...)
	if e != api.OK {
		return nil, e
	}
	return wantPut(v, path[0], part)
}

// wantDelete answers v without what paths tell, one of them after the other, the last first.
func wantDelete(v any, paths ...[]any) (any, api.Errno) {
	left := slices.Clone(paths)
	for len(left) > 0 {
		last := 0
		for i, path := range left {
			if order, _ := value.Compare(unmodel(path), unmodel(left[last])); order > 0 {
				last = i
			}
		}
		out, _, e := wantWithout(v, left[last]...)
		if e != api.OK {
			return nil, e
		}
		v = out
		left = slices.Delete(left, last, last+1)
	}
	return v, api.OK
}

// wantWithout answers v without what one path tells, and whether something was left out.
func wantWithout(v any, path ...any) (any, bool, api.Errno) {
	if len(path) == 0 {
		return nil, true, api.OK
	}
	step := path[0]
	if len(path) > 1 {
		there, e := wantIndex(v, step)
		if e != api.OK || there == nil {
			return v, false, e
		}
		part, gone, e := wantWithout(there, path[1:]...)
		if e != api.OK || !gone {
			return v, false, e
		}
		out, e := wantRawPut(v, step, part)
		return out, true, e
	}
	kind := stepKind(step)
	object, isObject := v.(map[string]any)
	l, isList := v.([]any)
	from, to := 0, 0
	switch {
	case v == nil:
		return v, false, api.OK
	case isObject && kind == "key":
		out := maps.Clone(object)
		delete(out, step.(string))
		return out, len(out) < len(object), api.OK
	case isList && kind == "place":
		if at := wantPlace(step, len(l)); at >= 0 && at < len(l) {
			from, to = at, at+1
		}
	case isList && kind == "slice":
		from, to = wantSpan(step, len(l))
	default:
		return v, false, api.ErrType
	}
	return slices.Concat(l[:from], l[to:]), to > from, api.OK
}

// wantPaths answers the paths of v and all its parts, each ahead of its parts', of which wanted tells true.
func wantPaths(v api.Value, wanted func(path []api.Value, v api.Value) bool, path ...api.Value) [][]api.Value {
	var out [][]api.Value
	if wanted(path, v) {
		out = append(out, slices.Clone(path))
	}
	for i, part := range v.List {
		step := value.Number(i)
		if v.Kind == 6 {
			step = api.Value{Kind: 4, Text: v.Keys[i]}
		}
		out = append(out, wantPaths(part, wanted, append(slices.Clone(path), step)...)...)
	}
	return out
}
