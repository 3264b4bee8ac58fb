package path

import (
	"iter"
	"slices"

	"bolter/api"
	"bolter/value"
)

// get is Get of values that may be; the answer shares their memory.
func get(v api.Value, path []api.Value) (api.Value, api.Errno) {
	for _, step := range path {
		part, e := index(v, step)
		if e != api.OK {
			return api.Value{}, e
		}
		v = part
	}
	return v, api.OK
}

// set is Set of values that may be; the answer shares their memory.
func set(v api.Value, path []api.Value, x api.Value) (api.Value, api.Errno) {
	if len(path) == 0 {
		return x, api.OK
	}
	there, e := index(v, path[0])
	if e != api.OK {
		return api.Value{}, e
	}
	part, e := set(there, path[1:], x)
	if e != api.OK {
		return api.Value{}, e
	}
	return sound(put(v, path[0], part))
}

// without answers v, which may be, without what the path leads to, and whether something was left out; the answer shares v's memory.
func without(v api.Value, path []api.Value) (api.Value, bool, api.Errno) {
	switch len(path) {
	case 0:
		return api.Value{}, true, api.OK
	case 1:
		return leaveOut(v, path[0])
	}
	there, e := index(v, path[0])
	if e != api.OK || there.Kind == kindNull {
		return v, false, e
	}
	left, is, e := without(there, path[1:])
	if e != api.OK || !is {
		return v, false, e
	}
	out, e := put(v, path[0], left)
	return out, true, e
}

// inOrder answers the paths in the order of lists, in another list. As values they may not be: steps that may be can be too deep for a list, or too many.
func inOrder(paths ...[]api.Value) [][]api.Value {
	compare := func(a, b api.Value) int {
		order, _ := value.Compare(a, b)
		return order
	}
	return slices.SortedFunc(slices.Values(paths), func(a, b []api.Value) int { return slices.CompareFunc(a, b, compare) })
}

// pathsOf answers the paths of v and its parts that are wanted.
func pathsOf(v api.Value, wanted func(path []api.Value, part api.Value) bool) ([][]api.Value, api.Errno) {
	if e := value.Check(v); e != api.OK {
		return nil, e
	}
	// All are counted ahead of the first copy: paths that are too many may be of far more octets than v.
	count := 0
	for path, part := range parts(v) {
		if wanted(path, part) {
			count++
		}
		if count > api.MaxItems {
			return nil, api.ErrCount
		}
	}
	out := make([][]api.Value, 0, count)
	for path, part := range parts(v) {
		if wanted(path, part) {
			out = append(out, value.List(path...).List)
		}
	}
	return out, api.OK
}

// parts hands out v and all its parts, each ahead of its own, with their paths, which stay as they are until the next one only.
func parts(v api.Value) iter.Seq2[[]api.Value, api.Value] {
	return func(yield func([]api.Value, api.Value) bool) {
		handOut(nil, v, yield)
	}
}

// handOut hands out v and its parts, and tells whether more is asked for.
func handOut(path []api.Value, v api.Value, yield func([]api.Value, api.Value) bool) bool {
	if !yield(path, v) {
		return false
	}
	for i, part := range v.List {
		if !handOut(append(path, stepTo(v, i)), part, yield) {
			return false
		}
	}
	return true
}

// stepTo answers the step to the value at a place of v.
func stepTo(v api.Value, at int) api.Value {
	if v.Kind == kindObject {
		return api.Value{Kind: kindText, Text: v.Keys[at]}
	}
	return value.Number(at)
}
