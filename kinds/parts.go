package kinds

import (
	"slices"
	"strings"

	"bolter/api"
	"bolter/printer"
	"bolter/value"
)

// workOut does what it is told, if all values that are listed may be, and answers what comes of it in memory of its own, if that may be, too.
func workOut(work func() (api.Value, api.Errno), list ...api.Value) (api.Value, api.Errno) {
	if e := check(list...); e != api.OK {
		return api.Value{}, e
	}
	out, e := work()
	if e == api.OK {
		e = check(out)
	}
	if e != api.OK {
		return api.Value{}, e
	}
	return value.List(out).List[0], api.OK
}

// check answers the error of the first value that has one.
func check(list ...api.Value) api.Errno {
	for _, v := range list {
		if e := value.Check(v); e != api.OK {
			return e
		}
	}
	return api.OK
}

// corrupt answers ErrCorrupt instead of any error but those that are told as they are.
func corrupt(e api.Errno, told ...api.Errno) api.Errno {
	if e == api.OK || slices.Contains(told, e) {
		return e
	}
	return api.ErrCorrupt
}

// number answers n as a value, with the error that it came with.
func number(n api.Dec, e api.Errno) (api.Value, api.Errno) {
	return api.Value{Kind: kindNumber, Num: n}, e
}

// text answers s as a value that shares its memory.
func text(s string) api.Value {
	return api.Value{Kind: kindText, Text: s}
}

func isBool(v api.Value) bool {
	return v.Kind == kindFalse || v.Kind == kindTrue
}

// contains tells whether a contains b, which both may be. Of unlike kinds neither does: that is an error of the two that are handed in alone, not of what they hold.
func contains(a, b api.Value) bool {
	if a.Kind != b.Kind {
		return false
	}
	switch a.Kind {
	case kindText:
		return strings.Contains(a.Text, b.Text)
	case kindList:
		lacks := func(part api.Value) bool {
			return !slices.ContainsFunc(a.List, func(other api.Value) bool { return contains(other, part) })
		}
		return !slices.ContainsFunc(b.List, lacks)
	case kindObject:
		return containsKeys(a, b)
	}
	// One number has one form. value.Compare would check both each time, as often as each of a list is held against each of another one.
	return a.Num.Neg == b.Num.Neg && a.Num.Exp == b.Num.Exp && slices.Equal(a.Num.Coef, b.Num.Coef)
}

// containsKeys tells whether the object a has each key of the object b, with a value that contains b's.
func containsKeys(a, b api.Value) bool {
	for i, key := range b.Keys {
		at, is := slices.BinarySearch(a.Keys, key)
		if !is || !contains(a.List[at], b.List[i]) {
			return false
		}
	}
	return true
}

// entryOf answers a key and a value as an object.
func entryOf(key string, v api.Value) api.Value {
	return api.Value{Kind: kindObject, Keys: []string{"key", "value"}, List: []api.Value{text(key), v}}
}

// keyOf answers the key that an entry tells; what is no object tells none.
func keyOf(entry api.Value) (string, api.Errno) {
	key := firstTrue(entry, "key", "k", "name")
	switch key.Kind {
	case kindText:
		return key.Text, api.OK
	case kindFalse, kindTrue, kindNumber:
		return printer.Compact(key)
	}
	return "", api.ErrType
}

// firstTrue answers the value at the first of the keys where one counts as true; where none does, the last one that is there; null, if there is none.
func firstTrue(entry api.Value, keys ...string) api.Value {
	var out api.Value
	for _, key := range keys {
		part, is := value.Get(entry, key)
		if !is {
			continue
		}
		out = part
		if value.True(part) {
			break
		}
	}
	return out
}

// flat answers the values of l, with those of its lists instead of these, down to a depth.
func flat(l []api.Value, depth int) []api.Value {
	var out []api.Value
	for _, part := range l {
		if part.Kind == kindList && depth > 0 {
			out = append(out, flat(part.List, depth-1)...)
			continue
		}
		out = append(out, part)
	}
	return out
}

// transposed answers as many lists as the longest row has values, each with what all rows have at its place.
func transposed(rows []api.Value) (api.Value, api.Errno) {
	longest := 0
	for _, row := range rows {
		longest = max(longest, len(row.List))
	}
	// One long row among many short ones makes far more nulls than a value has room for: they are counted, not made.
	if 1+longest+longest*len(rows) > api.MaxSize {
		return api.Value{}, api.ErrCount
	}
	out := api.Value{Kind: kindList}
	for i := range longest {
		column := api.Value{Kind: kindList, List: make([]api.Value, len(rows))}
		for j, row := range rows {
			if i < len(row.List) {
				column.List[j] = row.List[i]
			}
		}
		out.List = append(out.List, column)
	}
	return out, api.OK
}
