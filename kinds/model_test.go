package kinds

import (
	"encoding/json"
	"maps"
	"math/big"
	"regexp"
	"slices"
	"strings"
	"unicode/utf8"

	"bolter/api"
	"bolter/dec"
	"bolter/printer"
	"bolter/value"
)

// The words of the chapter, written anew over what the library has: nil, bool, *big.Rat, string, []any, map[string]any.

// model answers a value that may be in that form.
func model(v api.Value) any {
	switch v.Kind {
	case 1, 2:
		return v.Kind == 2
	case 3:
		digits, _ := dec.Print(v.Num)
		out, is := new(big.Rat).SetString(digits)
		if !is {
			panic(digits)
		}
		return out
	case 4:
		return v.Text
	case 5:
		out := []any{}
		for _, part := range v.List {
			out = append(out, model(part))
		}
		return out
	case 6:
		out := map[string]any{}
		for i, key := range v.Keys {
			out[key] = model(v.List[i])
		}
		return out
	}
	return nil
}

// unmodel answers the value again.
func unmodel(x any) api.Value {
	switch x := x.(type) {
	case bool:
		return value.Bool(x)
	case *big.Rat:
		return api.Value{Kind: 3, Num: decimal(x)}
	case string:
		return text(x)
	case []any:
		out := list()
		for _, part := range x {
			out.List = append(out.List, unmodel(part))
		}
		return out
	case map[string]any:
		out := object(slices.Sorted(maps.Keys(x)))
		for _, key := range out.Keys {
			out.List = append(out.List, unmodel(x[key]))
		}
		return out
	}
	return api.Value{}
}

// decimal answers the decimal that x is, of some.
func decimal(x *big.Rat) api.Dec {
	out, e := dec.Parse(x.FloatString(120))
	if x.IsInt() {
		out, e = dec.Parse(x.Num().String())
	}
	if e != api.OK {
		panic(x.String())
	}
	return out
}

// want answers what a call should tell of values that may be, value.Check's error of the answer, too.
func want(name string, l ...api.Value) told {
	var parts []any
	for _, v := range l {
		parts = append(parts, model(v))
	}
	out, e := wants()[name](parts...)
	v := unmodel(out)
	if e == api.OK {
		e = value.Check(v)
	}
	if e != api.OK {
		return no(e)
	}
	return as(v)
}

// wants are what the calls should tell, by their names.
func wants() map[string]func(l ...any) (any, api.Errno) {
	flat := func(depth int) func(l ...any) (any, api.Errno) {
		return func(l ...any) (any, api.Errno) { return wantFlat(depth, l[0]) }
	}
	return map[string]func(l ...any) (any, api.Errno){
		"Type": wantType, "Length": wantLength, "Keys": wantKeys, "Has": wantHas, "Contains": wantContains, "Entries": wantEntries, "Unentries": wantUnentries,
		"Flatten -1": flat(-1), "Flatten 0": flat(0), "Flatten 1": flat(1), "Flatten 2": flat(2), "Flatten 100": flat(100),
		"Reverse": wantReverse, "Number": wantNumber, "Text": wantText, "Read": wantRead, "Transpose": wantTranspose,
	}
}

func wantType(l ...any) (any, api.Errno) {
	switch l[0].(type) {
	case nil:
		return "null", api.OK
	case bool:
		return "boolean", api.OK
	case *big.Rat:
		return "number", api.OK
	case string:
		return "string", api.OK
	case []any:
		return "array", api.OK
	}
	return "object", api.OK
}

func wantLength(l ...any) (any, api.Errno) {
	rat := func(n int) (any, api.Errno) { return big.NewRat(int64(n), 1), api.OK }
	switch x := l[0].(type) {
	case nil:
		return rat(0)
	case *big.Rat:
		return new(big.Rat).Abs(x), api.OK
	case string:
		return rat(utf8.RuneCountInString(x))
	case []any:
		return rat(len(x))
	case map[string]any:
		return rat(len(x))
	}
	return nil, api.ErrType
}

func wantKeys(l ...any) (any, api.Errno) {
	out := []any{}
	switch x := l[0].(type) {
	case []any:
		for i := range x {
			out = append(out, big.NewRat(int64(i), 1))
		}
		return out, api.OK
	case map[string]any:
		for _, key := range slices.Sorted(maps.Keys(x)) {
			out = append(out, key)
		}
		return out, api.OK
	}
	return nil, api.ErrType
}

func wantHas(l ...any) (any, api.Errno) {
	switch x := l[0].(type) {
	case []any:
		if n, is := l[1].(*big.Rat); is {
			place := new(big.Int).Div(n.Num(), n.Denom())
			return place.Sign() >= 0 && place.Cmp(big.NewInt(int64(len(x)))) < 0, api.OK
		}
	case map[string]any:
		if key, is := l[1].(string); is {
			_, there := x[key]
			return there, api.OK
		}
	}
	return nil, api.ErrType
}

func wantContains(l ...any) (any, api.Errno) {
	a, _ := wantType(l[0])
	b, _ := wantType(l[1])
	if a != b {
		return nil, api.ErrType
	}
	switch y := l[1].(type) {
	case nil:
		return true, api.OK
	case bool:
		return l[0] == y, api.OK
	case *big.Rat:
		return l[0].(*big.Rat).Cmp(y) == 0, api.OK
	case string:
		return strings.Contains(l[0].(string), y), api.OK
	case []any:
		for _, part := range y {
			met := 0
			for _, other := range l[0].([]any) {
				if is, _ := wantContains(other, part); is == true {
					met++
				}
			}
			if met == 0 {
				return false, api.OK
			}
		}
	case map[string]any:
		for key, part := range y {
			other, there := l[0].(map[string]any)[key]
			if is, _ := wantContains(other, part); !there || is != true {
				return false, api.OK
			}
		}
	}
	return true, api.OK
}

func wantEntries(l ...any) (any, api.Errno) {
	x, is := l[0].(map[string]any)
	if !is {
		return nil, api.ErrType
	}
	out := []any{}
	for _, key := range slices.Sorted(maps.Keys(x)) {
		out = append(out, map[string]any{"key": key, "value": x[key]})
	}
	return out, api.OK
}

func wantUnentries(l ...any) (any, api.Errno) {
	x, is := l[0].([]any)
	if !is {
		return nil, api.ErrType
	}
	out := map[string]any{}
	for _, part := range x {
		from, is := part.(map[string]any)
		if !is {
			return nil, api.ErrType
		}
		key, e := wantText(wantFirst(from, "key", "k", "name"))
		switch wantFirst(from, "key", "k", "name").(type) {
		case nil, []any, map[string]any:
			return nil, api.ErrType
		}
		if e != api.OK {
			return nil, e
		}
		out[key.(string)] = wantFirst(from, "value", "v")
	}
	return out, api.OK
}

// wantFirst looks for the first that is neither null nor false, then from behind for one that is there.
func wantFirst(from map[string]any, keys ...string) any {
	for _, key := range keys {
		if part, there := from[key]; there && part != nil && part != false {
			return part
		}
	}
	for _, key := range slices.Backward(keys) {
		if part, there := from[key]; there {
			return part
		}
	}
	return nil
}

func wantFlat(depth int, v any) (any, api.Errno) {
	x, is := v.([]any)
	switch {
	case !is:
		return nil, api.ErrType
	case depth < 0:
		return nil, api.ErrRange
	}
	// A level each time, from outside on.
	for range min(depth, 100) {
		next := []any{}
		for _, part := range x {
			switch part := part.(type) {
			case []any:
				next = append(next, part...)
			default:
				next = append(next, part)
			}
		}
		x = next
	}
	return x, api.OK
}

func wantReverse(l ...any) (any, api.Errno) {
	switch x := l[0].(type) {
	case nil:
		return []any{}, api.OK
	case string:
		out := ""
		for _, char := range x {
			out = string(char) + out
		}
		return out, api.OK
	case []any:
		out := []any{}
		for _, part := range slices.Backward(x) {
			out = append(out, part)
		}
		return out, api.OK
	}
	return nil, api.ErrType
}

func wantNumber(l ...any) (any, api.Errno) {
	switch x := l[0].(type) {
	case *big.Rat:
		return x, api.OK
	case string:
		if !regexp.MustCompile(`^-?(0|[1-9][0-9]*)(\.[0-9]+)?([eE][+-]?[0-9]+)?$`).MatchString(x) {
			return nil, api.ErrCorrupt
		}
		out, _ := new(big.Rat).SetString(x)
		return out, api.OK
	}
	return nil, api.ErrType
}

func wantText(l ...any) (any, api.Errno) {
	if x, is := l[0].(string); is {
		return x, api.OK
	}
	out, e := printer.Compact(unmodel(l[0]))
	return out, e
}

func wantRead(l ...any) (any, api.Errno) {
	x, is := l[0].(string)
	if !is {
		return nil, api.ErrType
	}
	if !json.Valid([]byte(x)) {
		return nil, api.ErrCorrupt
	}
	from := json.NewDecoder(strings.NewReader(x))
	from.UseNumber()
	var out any
	if err := from.Decode(&out); err != nil {
		panic(err)
	}
	return wantNumbers(out), api.OK
}

// wantNumbers makes numbers of the library's.
func wantNumbers(v any) any {
	switch x := v.(type) {
	case json.Number:
		out, _ := new(big.Rat).SetString(x.String())
		return out
	case []any:
		for i := range x {
			x[i] = wantNumbers(x[i])
		}
	case map[string]any:
		for key := range x {
			x[key] = wantNumbers(x[key])
		}
	}
	return v
}

func wantTranspose(l ...any) (any, api.Errno) {
	x, is := l[0].([]any)
	if !is {
		return nil, api.ErrType
	}
	out := []any{}
	for at, part := range x {
		row, is := part.([]any)
		if !is {
			return nil, api.ErrType
		}
		for len(out) < len(row) {
			out = append(out, make([]any, len(x)))
		}
		for i := range row {
			out[i].([]any)[at] = row[i]
		}
	}
	return out, api.OK
}
