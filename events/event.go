package events

import (
	"slices"

	"bolter/api"
	"bolter/value"
)

// Some kinds of values, as package api numbers them.
const (
	kindNull   = 0
	kindNumber = 3
	kindText   = 4
	kindList   = 5
	kindObject = 6
)

// event answers a path and a leaf, or an end if there is none, as a value in memory of its own.
func event(path []api.Value, leaf ...api.Value) api.Value {
	whole := append([]api.Value{{Kind: kindList, List: path}}, leaf...)
	return value.List(whole...)
}

// apart answers the path of an event, and its leaf, or none if it is an end; they share its memory.
func apart(v api.Value) ([]api.Value, []api.Value) {
	return v.List[0].List, v.List[1:]
}

// check answers the error of the first of the values that may not be; else whether one is no event.
func check(l []api.Value) api.Errno {
	for _, v := range l {
		if e := value.Check(v); e != api.OK {
			return e
		}
	}
	if slices.ContainsFunc(l, func(v api.Value) bool { return !isEvent(v) }) {
		return api.ErrType
	}
	return api.OK
}

// isEvent tells whether a value, which may be, is an event.
func isEvent(v api.Value) bool {
	if v.Kind != kindList || len(v.List) == 0 || v.List[0].Kind != kindList {
		return false
	}
	path, leaf := apart(v)
	isNoStep := func(step api.Value) bool { return step.Kind != kindText && step.Kind != kindNumber }
	if slices.ContainsFunc(path, isNoStep) {
		return false
	}
	if len(leaf) == 0 {
		return len(path) > 0
	}
	return len(leaf) == 1 && isLeaf(leaf[0])
}

// isLeaf tells whether a value, which may be, holds none.
func isLeaf(v api.Value) bool {
	return len(v.List) == 0
}

// walk does something with the path and the leaf of each event of v, in order; with the path alone, if it is an end. The path stays as it is until the next one only.
func walk(v api.Value, do func(path []api.Value, leaf ...api.Value)) {
	walkOn(nil, v, do)
}

// walkOn is walk of what stands at a path.
func walkOn(path []api.Value, v api.Value, do func(path []api.Value, leaf ...api.Value)) {
	if isLeaf(v) {
		do(path, v)
		return
	}
	for i, part := range v.List {
		walkOn(append(path, stepTo(v, i)), part, do)
	}
	do(append(path, stepTo(v, len(v.List)-1)))
}

// stepTo answers the step to the value at a place of v.
func stepTo(v api.Value, at int) api.Value {
	if v.Kind == kindObject {
		return api.Value{Kind: kindText, Text: v.Keys[at]}
	}
	return value.Number(at)
}
