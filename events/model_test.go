package events

import (
	"encoding/json"
	"fmt"
	"strings"

	"bolter/api"
	"bolter/path"
	"bolter/printer"
	"bolter/value"
)

// The words of the chapter, written anew: events as JSON texts, put together and taken apart by the library; what they make, by path.Set of all that is under way, leaf by leaf.

// compact answers the JSON text of a value that may be.
func compact(v api.Value) string {
	out, e := printer.Compact(v)
	if e != api.OK {
		panic(fmt.Sprint("no text: ", e))
	}
	return out
}

// wantTexts answers the JSON texts of the events of v, which stands by these steps.
func wantTexts(v api.Value, steps ...string) []string {
	path := func(steps ...string) string { return "[" + strings.Join(steps, ",") + "]" }
	if v.Kind < 5 || len(v.List) == 0 {
		return []string{"[" + path(steps...) + "," + compact(v) + "]"}
	}
	var out, last []string
	for i, part := range v.List {
		step := fmt.Sprint(i)
		if v.Kind == 6 {
			step = compact(text(v.Keys[i]))
		}
		last = append(append([]string{}, steps...), step)
		out = append(out, wantTexts(part, last...)...)
	}
	return append(out, "["+path(last...)+"]")
}

// wantTo is To of v.
func wantTo(v api.Value) told {
	if e := value.Check(v); e != api.OK {
		return no(e)
	}
	texts := wantTexts(v)
	if len(texts) > 4096 {
		return no(api.ErrCount)
	}
	var out []api.Value
	for _, s := range texts {
		out = append(out, one(s))
	}
	return as(out...)
}

// isModel tells whether a value is an event, of what the library reads of its text.
func isModel(v api.Value) bool {
	var whole any
	reader := json.NewDecoder(strings.NewReader(compact(v)))
	reader.UseNumber()
	if e := reader.Decode(&whole); e != nil {
		panic(e)
	}
	parts, _ := whole.([]any)
	if len(parts) != 1 && len(parts) != 2 {
		return false
	}
	steps, is := parts[0].([]any)
	for _, step := range steps {
		switch step.(type) {
		case string, json.Number:
		default:
			return false
		}
	}
	if len(parts) == 1 {
		return is && len(steps) > 0
	}
	switch leaf := parts[1].(type) {
	case []any:
		return is && len(leaf) == 0
	case map[string]any:
		return is && len(leaf) == 0
	}
	return is
}

// wantError is the error of events.
func wantError(l []api.Value) api.Errno {
	for _, v := range l {
		if e := value.Check(v); e != api.OK {
			return e
		}
	}
	for _, v := range l {
		if !isModel(v) {
			return api.ErrType
		}
	}
	return api.OK
}

// wantFrom is From of events.
func wantFrom(l []api.Value) told {
	if e := wantError(l); e != api.OK {
		return no(e)
	}
	var out []api.Value
	underWay := api.Value{}
	for _, v := range l {
		steps := v.List[0].List
		if len(v.List) == 2 && len(steps) == 0 {
			out = append(out, v.List[1])
		}
		if len(v.List) == 2 && len(steps) > 0 {
			next, e := path.Set(underWay, steps, v.List[1])
			if e != api.OK {
				return no(e)
			}
			underWay = next
		}
		if len(v.List) == 1 && len(steps) == 1 {
			out = append(out, underWay)
			underWay = api.Value{}
		}
	}
	return as(out...)
}

// wantTruncate is Truncate of events.
func wantTruncate(l []api.Value, depth int) told {
	if e := wantError(l); e != api.OK {
		return no(e)
	}
	if depth < 0 {
		return no(api.ErrRange)
	}
	var out []api.Value
	for _, v := range l {
		left := list()
		for i, step := range v.List[0].List {
			if i >= depth {
				left.List = append(left.List, step)
			}
		}
		if len(left.List) > 0 {
			out = append(out, list(append([]api.Value{left}, v.List[1:]...)...))
		}
	}
	return as(out...)
}

// wantLeaves is Leaves of events.
func wantLeaves(l []api.Value) told {
	if e := wantError(l); e != api.OK {
		return no(e)
	}
	counts := [3]int{}
	for _, v := range l {
		counts[len(v.List)]++
	}
	return as(num(counts[2]), num(counts[1]))
}

// want is what a call should tell of values.
func (c call) want(l []api.Value) told {
	switch c.name {
	case "To":
		return wantTo(l[0])
	case "From":
		return wantFrom(l)
	case "Leaves":
		return wantLeaves(l)
	}
	depth := 0
	if _, e := fmt.Sscanf(c.name, "Truncate by %d", &depth); e != nil {
		panic(c.name)
	}
	return wantTruncate(l, depth)
}
