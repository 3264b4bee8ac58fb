package path

import (
	"testing"

	"bolter/api"
	"bolter/value"
)

// checkGot holds that what is set is got, and tells whether it could be set.
func checkGot(t *testing.T, v api.Value, path []api.Value, x api.Value) bool {
	t.Helper()
	set, e := Set(v, path, x)
	if e != api.OK {
		return false
	}
	got, e := Get(set, path)
	checkTold(t, "Get of what was set in "+show(v)+" by "+showPaths(path), got, e, x, api.OK)
	return true
}

// TestP104Got: what was set is got, by paths of keys and of places, whatever was there.
func TestP104Got(t *testing.T) {
	d := dice(104)
	sets := 0
	for range 40000 {
		v, x := d.value(4), d.value(2)
		var path []api.Value
		for _, step := range pick(&d, [][]api.Value{d.path(), d.pathIn(v)}) {
			if step.Kind == 3 || step.Kind == 4 {
				path = append(path, step)
			}
		}
		if checkGot(t, v, path, x) {
			sets++
		}
		if t.Failed() {
			return
		}
	}
	if sets < 10000 {
		t.Error("too few could be set:", sets)
	}
}

// TestP104Edges: what is set at the edges is got.
func TestP104Edges(t *testing.T) {
	long := list(many(api.MaxItems, number(7))...)
	for _, c := range []struct {
		v    api.Value
		path []api.Value
	}{
		{api.Value{}, nil}, {long, nil}, {api.Value{}, many(api.MaxDepth, number(0))}, {api.Value{}, many(api.MaxDepth, text(""))}, {api.Value{}, read(`4095`)}, {api.Value{}, read(`4095 4095 4095`)}, {api.Value{}, read(`0.5 1.5 "a" 0`)},
		{long, read("0")}, {long, read("4095")}, {long, read("-1")}, {long, read("-4096")}, {long, read("-0.5")}, {long, read("-4095.5")}, {list(long, long), read("1 -4096")},
		{object(keys(api.MaxItems), long.List...), read(`"1004095"`)}, {object(keys(api.MaxItems-1), long.List[1:]...), read(`""`)},
	} {
		for _, x := range read(`"x" 0 null false`) {
			if !checkGot(t, c.v, c.path, x) {
				t.Errorf("nothing can be set by %s", showPaths(c.path))
			}
		}
	}
}

// TestP104Others: what stands elsewhere is got as it was.
func TestP104Others(t *testing.T) {
	d := dice(1041)
	for range 2000 {
		v := d.value(4)
		all, _ := All(v)
		if len(all) == 0 {
			continue
		}
		path := pick(&d, all)
		set, e := Set(v, path, text("new"))
		if e != api.OK {
			t.Errorf("Set of %s by %s: error %d", show(v), showPaths(path), e)
		}
		for _, other := range all {
			n := min(len(other), len(path))
			if samePath(other[:n], path[:n]) {
				continue
			}
			was, _ := Get(v, other)
			got, e := Get(set, other)
			checkTold(t, "Get of what was not set in "+show(v)+" by "+showPaths(other), got, e, was, api.OK)
		}
	}
}

// TestP104Leaves: the value is all that its leaves tell, set one by one; each path leads to its part.
func TestP104Leaves(t *testing.T) {
	d := dice(1042)
	for range 2000 {
		v := d.value(4)
		leaves, e := Leaves(v)
		var again api.Value
		for _, path := range leaves {
			leaf, _ := Get(v, path)
			again, e = Set(again, path, leaf)
		}
		checkTold(t, "the leaves of "+show(v), again, e, v, api.OK)
		all, _ := All(v)
		size := 1
		for _, path := range all {
			part, e := Get(v, path)
			if e != api.OK {
				t.Errorf("Get of %s by %s: error %d", show(v), showPaths(path), e)
			}
			size++
			if isLeaf(path, part) != (value.Size(part) == 1) {
				t.Errorf("%s by %s is no part", show(part), showPaths(path))
			}
		}
		if size != value.Size(v) {
			t.Errorf("%s has %d parts, not %d", show(v), size, value.Size(v))
		}
	}
}
