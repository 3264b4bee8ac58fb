package events

import (
	"slices"

	"bolter/api"
	"bolter/dec"
	"bolter/quot"
	"bolter/value"
)

// part is a part of what is under way, which is changed in place: path.Set would check and copy all of it for each leaf. The zero part is null.
type part struct {
	leaf   api.Value // what it is; of its kind alone, if it has parts
	keys   []string  // of its parts, if it is an object
	parts  []part
	within int // how many values stand within it
}

// set sets a leaf at a path of p, which is all that is under way; its errors are those of path.Set. Behind an error p is good for nothing.
func (p *part) set(path []api.Value, leaf api.Value) api.Errno {
	if len(path) > api.MaxDepth {
		return api.ErrDepth
	}
	return p.setBy(path, leaf)
}

// setBy is set of a part of what is under way, by the steps that are left.
func (p *part) setBy(steps []api.Value, leaf api.Value) api.Errno {
	if len(steps) == 0 {
		*p = part{leaf: leaf}
		return api.OK
	}
	at, is, e := p.find(steps[0])
	if e != api.OK {
		return e
	}
	next := &part{}
	if is {
		next = &p.parts[at]
	}
	was := next.within
	if e := next.setBy(steps[1:], leaf); e != api.OK {
		return e
	}
	if is {
		p.within += next.within - was
	} else if e := p.insert(steps[0], at, *next); e != api.OK {
		return e
	}
	return p.check(len(steps) + value.Deep(leaf))
}

// find answers where the part is that a step leads to, and true; or where it would be, and false. What has no parts of such a step is ErrType.
func (p *part) find(step api.Value) (int, bool, api.Errno) {
	switch kind := p.leaf.Kind; {
	case step.Kind == kindText && (kind == kindObject || kind == kindNull):
		at, is := slices.BinarySearch(p.keys, step.Text)
		return at, is, api.OK
	case step.Kind == kindNumber && (kind == kindList || kind == kindNull):
		at := place(step, len(p.parts))
		return at, at >= 0 && at < len(p.parts), api.OK
	}
	return 0, false, api.ErrType
}

// place answers the place that a number tells among n values; it may be none of theirs.
func place(number api.Value, n int) int {
	// A decimal that may be can always be made whole.
	floor, _ := quot.Floor(number.Num)
	at, is, _ := dec.Whole(floor)
	if !is {
		// So far from 0, on either side, nothing has a place.
		return -1
	}
	if at < 0 {
		at += n
	}
	return at
}

// insert puts another part in where a step leads to and nothing is: null becomes a list or an object.
func (p *part) insert(step api.Value, at int, other part) api.Errno {
	was := len(p.parts)
	switch {
	case step.Kind == kindText:
		p.leaf = api.Value{Kind: kindObject}
		p.keys = slices.Insert(p.keys, at, step.Text)
		p.parts = slices.Insert(p.parts, at, other)
	case at < 0 || at >= api.MaxItems:
		return api.ErrRange
	default:
		p.leaf = api.Value{Kind: kindList}
		p.parts = append(p.parts, make([]part, at-was)...)
		p.parts = append(p.parts, other)
	}
	p.within += len(p.parts) - was + other.within
	return api.OK
}

// check answers value.Check's error of p, of which just that is new that is so deep and ends in a leaf.
func (p *part) check(deep int) api.Errno {
	switch {
	case deep > api.MaxDepth:
		return api.ErrDepth
	case 1+p.within > api.MaxSize:
		return api.ErrCount
	case len(p.keys) > api.MaxItems:
		return api.ErrLong
	}
	return api.OK
}

// whole answers p as a value that shares its memory.
func (p *part) whole() api.Value {
	out := p.leaf
	out.Keys = p.keys
	for i := range p.parts {
		out.List = append(out.List, p.parts[i].whole())
	}
	return out
}
