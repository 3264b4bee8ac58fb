package arith

import (
	"bolter/api"
	"bolter/dec"
	"bolter/value"
)

// total is a sum on its way: a value in lists of its own, an object's keys as they came. It is told as it grows whether it may be, as to look at all of it for each value that is added would take far longer.
type total struct {
	api.Value
	inside int            // how many values it holds in all
	places map[string]int // where an object's keys stand
}

// add adds v, which may be, and answers the error of the sum.
func (t *total) add(v api.Value) api.Errno {
	first := t.Kind == kindNull
	switch {
	case v.Kind == kindNull:
		return api.OK
	case first:
		t.Kind = v.Kind
	case t.Kind != v.Kind:
		return api.ErrType
	}
	// What is added first is added to an empty text, list or object, or to 0.
	ways := [...]func(t *total, v api.Value) api.Errno{kindNumber: (*total).addNumber, kindText: (*total).addText, kindList: (*total).addList, kindObject: (*total).addObject}
	if way := ways[v.Kind]; way != nil {
		return way(t, v)
	}
	if first {
		return api.OK
	}
	return api.ErrType
}

func (t *total) addNumber(v api.Value) api.Errno {
	sum, e := dec.Add(t.Num, v.Num)
	t.Num = sum
	return e
}

func (t *total) addText(v api.Value) api.Errno {
	t.Text += v.Text
	if len(t.Text) > api.MaxText {
		return api.ErrLong
	}
	return api.OK
}

func (t *total) addList(v api.Value) api.Errno {
	t.List = append(t.List, v.List...)
	t.inside += value.Size(v) - 1
	return t.room()
}

func (t *total) addObject(v api.Value) api.Errno {
	if t.places == nil {
		t.places = map[string]int{}
	}
	for i, key := range v.Keys {
		part := v.List[i]
		t.inside += value.Size(part)
		if at, is := t.places[key]; is {
			t.inside -= value.Size(t.List[at])
			t.List[at] = part
			continue
		}
		t.places[key] = len(t.List)
		t.Keys = append(t.Keys, key)
		t.List = append(t.List, part)
	}
	return t.room()
}

// room answers the error of a list or an object that holds too much.
func (t *total) room() api.Errno {
	switch {
	case t.inside >= api.MaxSize:
		return api.ErrCount
	case len(t.List) > api.MaxItems:
		return api.ErrLong
	}
	return api.OK
}

// answer answers the sum, in memory of its own.
func (t *total) answer() (api.Value, api.Errno) {
	if t.Kind == kindObject {
		return value.Object(t.Keys, t.List)
	}
	return own(t.Value, api.OK)
}
