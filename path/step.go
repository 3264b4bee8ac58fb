package path

import (
	"slices"

	"bolter/api"
	"bolter/dec"
	"bolter/quot"
	"bolter/utf"
)

// The kinds of values, as package api numbers them.
const (
	kindNull = iota
	kindFalse
	kindTrue
	kindNumber
	kindText
	kindList
	kindObject
)

// farthest is how far from 0 a number still counts as the place that it is.
const farthest = 1 << 53

// slice answers the step that tells a slice.
func slice(from, to api.Value) api.Value {
	return api.Value{Kind: kindObject, Keys: []string{"end", "start"}, List: []api.Value{to, from}}
}

// isSlice tells whether a step is a slice.
func isSlice(step api.Value) bool {
	if step.Kind != kindObject || !slices.Equal(step.Keys, []string{"end", "start"}) {
		return false
	}
	return !slices.ContainsFunc(step.List, func(end api.Value) bool { return end.Kind != kindNull && end.Kind != kindNumber })
}

// place answers the place that a number tells among n values; it may be none of theirs.
func place(number api.Value, n int) int {
	at := whole(number, quot.Floor)
	if at < 0 {
		at += n
	}
	return at
}

// bounds answers the places of a step that is a slice among n values or characters: the first one, and the one behind the last.
func bounds(step api.Value, n int) (int, int) {
	from, to := 0, n
	end, start := step.List[0], step.List[1]
	if start.Kind == kindNumber {
		from = whole(start, quot.Floor)
	}
	if end.Kind == kindNumber {
		to = whole(end, quot.Ceil)
	}
	return utf.Bounds(n, from, to)
}

// whole answers a number made whole by what is told, cut to the farthest that counts.
func whole(number api.Value, toWhole func(a api.Dec) (api.Dec, api.Errno)) int {
	// A decimal that may be can always be made whole.
	made, _ := toWhole(number.Num)
	if out, is, _ := dec.Whole(made); is {
		return out
	}
	if made.Neg {
		return -farthest
	}
	return farthest
}

// span answers which of v's values a step tells: from the first place up to the second. It is empty if they are not there: at a key's place in order, or behind all values. What has no values of such a step is ErrType; null counts as empty.
func span(v, step api.Value) (int, int, api.Errno) {
	n := len(v.List)
	switch {
	case step.Kind == kindText && (v.Kind == kindObject || v.Kind == kindNull):
		at, is := slices.BinarySearch(v.Keys, step.Text)
		if is {
			return at, at + 1, api.OK
		}
		return at, at, api.OK
	case step.Kind == kindNumber && (v.Kind == kindList || v.Kind == kindNull):
		if at := place(step, n); at >= 0 && at < n {
			return at, at + 1, api.OK
		}
		return n, n, api.OK
	case isSlice(step) && (v.Kind == kindList || v.Kind == kindNull):
		from, to := bounds(step, n)
		return from, to, api.OK
	}
	return 0, 0, api.ErrType
}

// index is Index of values that may be; the answer shares their memory.
func index(v, step api.Value) (api.Value, api.Errno) {
	if v.Kind == kindText && isSlice(step) {
		return characters(v, step), api.OK
	}
	from, to, e := span(v, step)
	switch {
	case e != api.OK || v.Kind == kindNull:
		return api.Value{}, e
	case isSlice(step):
		return api.Value{Kind: kindList, List: v.List[from:to]}, api.OK
	case from == to:
		return api.Value{}, api.OK
	}
	return v.List[from], api.OK
}

// characters answers the characters of a text that a step tells that is a slice.
func characters(v, step api.Value) api.Value {
	count, _ := utf.Count(v.Text)
	from, to := bounds(step, count)
	part, _ := utf.Slice(v.Text, from, to)
	return api.Value{Kind: kindText, Text: part}
}

// put is Put of values that may be, without its last error; the answer shares their memory, but for its own list and keys.
func put(v, step, x api.Value) (api.Value, api.Errno) {
	from, to, e := span(v, step)
	switch {
	case e != api.OK:
		return api.Value{}, e
	case step.Kind == kindText:
		keys := replaced(v.Keys, from, to, step.Text)
		return api.Value{Kind: kindObject, Keys: keys, List: replaced(v.List, from, to, x)}, api.OK
	case isSlice(step):
		if x.Kind != kindList {
			return api.Value{}, api.ErrType
		}
		return api.Value{Kind: kindList, List: replaced(v.List, from, to, x.List...)}, api.OK
	}
	at := place(step, len(v.List))
	if at < 0 || at >= api.MaxItems {
		return api.Value{}, api.ErrRange
	}
	between := make([]api.Value, max(at-len(v.List), 0))
	return api.Value{Kind: kindList, List: replaced(v.List, from, to, append(between, x)...)}, api.OK
}

// leaveOut answers v, which may be, without what a step tells, and whether something was left out; the answer shares v's memory, but for its own list and keys.
func leaveOut(v, step api.Value) (api.Value, bool, api.Errno) {
	if v.Kind == kindNull {
		return v, false, api.OK
	}
	from, to, e := span(v, step)
	if e != api.OK || from == to {
		return v, false, e
	}
	v.List = replaced(v.List, from, to)
	if v.Kind == kindObject {
		v.Keys = replaced(v.Keys, from, to)
	}
	return v, true, api.OK
}

// replaced answers, in another list, l with other ones instead of those from a place up to another.
func replaced[T any](l []T, from, to int, by ...T) []T {
	return slices.Concat(l[:from], by, l[to:])
}
