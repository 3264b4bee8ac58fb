package arith

import (
	"slices"
	"strings"

	"bolter/api"
	"bolter/dec"
	"bolter/order"
	"bolter/quot"
	"bolter/value"
)

// The kinds of values, as package api numbers them.
const (
	kindNull = iota
	kindFalse
	kindTrue
	kindNumber
	kindText
	kindList
	kindObject
)

// pair is two values. What its methods tell of two that may be shares their memory, and may be too great.
type pair struct {
	a, b api.Value
}

// rule says what is done with a value of the kind a and one of the kind b.
type rule struct {
	a, b int
	do   func(p pair) (api.Value, api.Errno)
}

// workOut answers what the rule for both kinds makes of a pair, in memory of its own.
func (p pair) workOut(rules ...rule) (api.Value, api.Errno) {
	if e := check(p.a, p.b); e != api.OK {
		return api.Value{}, e
	}
	at := slices.IndexFunc(rules, func(r rule) bool { return r.a == p.a.Kind && r.b == p.b.Kind })
	if at < 0 {
		return api.Value{}, api.ErrType
	}
	return own(rules[at].do(p))
}

func (p pair) difference() (api.Value, api.Errno) {
	return number(dec.Sub(p.a.Num, p.b.Num))
}

func (p pair) product() (api.Value, api.Errno) {
	return number(dec.Mul(p.a.Num, p.b.Num))
}

func (p pair) quotient() (api.Value, api.Errno) {
	return number(quot.Div(p.a.Num, p.b.Num))
}

func (p pair) rest() (api.Value, api.Errno) {
	return number(quot.Mod(p.a.Num, p.b.Num))
}

// without answers the values of the list a that are none of the list b. Each of one held against each of the other would take far longer than to put all in groups of like ones.
func (p pair) without() (api.Value, api.Errno) {
	places := make([]api.Value, len(p.a.List))
	for i := range places {
		places[i] = value.Number(i)
	}
	// Null stands for a value of b. It comes last in its group, as like ones stay as they stood.
	marks := slices.Concat(places, make([]api.Value, len(p.b.List)))
	groups, e := order.GroupBy(marks, slices.Concat(p.a.List, p.b.List))
	var left []int
	for _, group := range groups {
		if group[len(group)-1].Kind == kindNull {
			continue
		}
		for _, place := range group {
			at, _, _ := dec.Whole(place.Num)
			left = append(left, at)
		}
	}
	slices.Sort(left)
	out := api.Value{Kind: kindList}
	for _, at := range left {
		out.List = append(out.List, p.a.List[at])
	}
	return out, e
}

func (p pair) merged() (api.Value, api.Errno) {
	return merge(p.a, p.b), api.OK
}

// merge answers all keys of two objects, with the values that both have at one merged in turn; of two others b.
func merge(a, b api.Value) api.Value {
	if a.Kind != kindObject || b.Kind != kindObject {
		return b
	}
	keys := slices.Concat(a.Keys, b.Keys)
	slices.Sort(keys)
	out := api.Value{Kind: kindObject, Keys: slices.Compact(keys)}
	for _, key := range out.Keys {
		i, inA := slices.BinarySearch(a.Keys, key)
		j, inB := slices.BinarySearch(b.Keys, key)
		switch {
		case !inB:
			out.List = append(out.List, a.List[i])
		case !inA:
			out.List = append(out.List, b.List[j])
		default:
			out.List = append(out.List, merge(a.List[i], b.List[j]))
		}
	}
	return out
}

// repeated answers the text a so many times as the number b says.
func (p pair) repeated() (api.Value, api.Errno) {
	const most = api.MaxText + 1 // so many times only the empty text may stand, and of that any number is the same
	// A decimal that may be can always be made whole.
	floor, _ := quot.Floor(p.b.Num)
	times, is, _ := dec.Whole(floor)
	if !is && !floor.Neg {
		times = most
	}
	if times < 1 {
		return api.Value{}, api.OK
	}
	times = min(times, most)
	if len(p.a.Text)*times > api.MaxText {
		return api.Value{}, api.ErrLong
	}
	return api.Value{Kind: kindText, Text: strings.Repeat(p.a.Text, times)}, api.OK
}

// pieces answers what the text a falls into, cut at each text b.
func (p pair) pieces() (api.Value, api.Errno) {
	out := api.Value{Kind: kindList}
	if p.a.Text == "" {
		return out, api.OK
	}
	for _, piece := range strings.Split(p.a.Text, p.b.Text) {
		out.List = append(out.List, api.Value{Kind: kindText, Text: piece})
	}
	return out, api.OK
}
