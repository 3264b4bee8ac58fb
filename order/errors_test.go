package order

import (
	"slices"
	"testing"

	"bolter/api"
	"bolter/value"
)

// call is a call of the layer: what it takes beside l, and how it answers. empty tells that all beside the error is zero or empty.
type call struct {
	name       string
	takesKeys  bool
	takesValue bool
	do         func(l, keys []api.Value, v api.Value) (empty bool, e api.Errno)
}

func calls() []call {
	return []call{
		{"Sort", false, false, func(l, _ []api.Value, _ api.Value) (bool, api.Errno) {
			out, e := Sort(l)
			return len(out) == 0, e
		}},
		{"SortBy", true, false, func(l, keys []api.Value, _ api.Value) (bool, api.Errno) {
			out, e := SortBy(l, keys)
			return len(out) == 0, e
		}},
		{"GroupBy", true, false, func(l, keys []api.Value, _ api.Value) (bool, api.Errno) {
			out, e := GroupBy(l, keys)
			return len(out) == 0, e
		}},
		{"UniqueBy", true, false, func(l, keys []api.Value, _ api.Value) (bool, api.Errno) {
			out, e := UniqueBy(l, keys)
			return len(out) == 0, e
		}},
		{"Least", true, false, func(l, keys []api.Value, _ api.Value) (bool, api.Errno) {
			at, e := Least(l, keys)
			return at == 0, e
		}},
		{"Most", true, false, func(l, keys []api.Value, _ api.Value) (bool, api.Errno) {
			at, e := Most(l, keys)
			return at == 0, e
		}},
		{"Search", false, true, func(l, _ []api.Value, v api.Value) (bool, api.Errno) {
			at, is, e := Search(l, v)
			return at == 0 && !is, e
		}},
		{"Index", false, true, func(l, _ []api.Value, v api.Value) (bool, api.Errno) {
			out, e := Index(l, v)
			return len(out) == 0, e
		}},
	}
}

// checkError holds that a call answers an error, and nothing beside it.
func checkError(t *testing.T, what string, c call, l, keys []api.Value, v api.Value, want api.Errno) {
	t.Helper()
	if empty, e := c.do(l, keys, v); !empty || e != want {
		t.Errorf("%s, %s: error %d, not %d; empty: %v", c.name, what, e, want, empty)
	}
}

func TestFaultsAgreeWithValue(t *testing.T) {
	for _, f := range faults() {
		if e := value.Check(f.v); e != f.e {
			t.Errorf("%s: error %d, not %d", show(f.v), e, f.e)
		}
	}
}

// TestP61CheckOfList: l's error, wherever it stands, and the first of several.
func TestP61CheckOfList(t *testing.T) {
	keys, v := numbers(3, 3, 3, 3), number(2)
	for _, c := range calls() {
		for i, f := range faults() {
			other := faults()[(i+3)%len(faults())].v
			for place := range 4 {
				l := numbers(5, 1, 3, 2)
				l[place] = f.v
				checkError(t, "a fault in l", c, l, keys, v, f.e)
				for j := place + 1; j < 4; j++ {
					l[j] = other
				}
				checkError(t, "the first fault in l", c, l, keys, v, f.e)
				checkError(t, "l ahead of keys and v", c, l, many(4, other), other, f.e)
				checkError(t, "l ahead of the count", c, l, keys[:3], v, f.e)
				checkError(t, "l ahead of the count", c, l, nil, v, f.e)
				checkError(t, "l ahead of the count", c, l, append(numbers(1), keys...), v, f.e)
			}
			checkError(t, "a fault alone", c, []api.Value{f.v}, numbers(1), v, f.e)
		}
	}
}

// TestP61CheckOfKeys: behind l's error, and ahead of all else.
func TestP61CheckOfKeys(t *testing.T) {
	for _, c := range calls() {
		if !c.takesKeys {
			continue
		}
		for i, f := range faults() {
			other := faults()[(i+4)%len(faults())].v
			for place := range 4 {
				keys := numbers(5, 1, 1, 2)
				keys[place] = f.v
				checkError(t, "a fault in keys", c, numbers(1, 2, 3, 4), keys, other, f.e)
				for j := place + 1; j < 4; j++ {
					keys[j] = other
				}
				for n := range 7 {
					checkError(t, "the first fault in keys", c, many(n, number(7)), keys, other, f.e)
				}
			}
		}
	}
}

// TestP61CheckOfValue: the error of v, behind l's, and ahead of all else.
func TestP61CheckOfValue(t *testing.T) {
	for _, c := range calls() {
		if !c.takesValue {
			continue
		}
		for _, f := range faults() {
			checkError(t, "a fault in v", c, numbers(1, 2, 3), nil, f.v, f.e)
			checkError(t, "v, of no values", c, nil, nil, f.v, f.e)
			checkError(t, "v ahead of l's order", c, numbers(3, 2, 1), nil, f.v, f.e)
		}
	}
}

// TestP61Count: more keys, and fewer.
func TestP61Count(t *testing.T) {
	for _, c := range calls() {
		if !c.takesKeys {
			continue
		}
		for values := range 6 {
			for keys := range 6 {
				if keys != values {
					checkError(t, "not as many", c, many(values, number(1)), many(keys, text("a")), number(1), api.ErrCount)
				}
			}
		}
	}
}

// TestP61None: of no values there is no least, and all else is empty.
func TestP61None(t *testing.T) {
	for _, none := range [][]api.Value{nil, {}} {
		for _, c := range calls() {
			want := api.OK
			if c.name == "Least" || c.name == "Most" {
				want = api.ErrNone
			}
			checkError(t, "no values", c, none, none, number(1), want)
			checkError(t, "no values", c, none, nil, number(1), want)
			checkError(t, "no values", c, nil, none, number(1), want)
		}
	}
}

// TestP62SearchState: l is not in order, whatever v is.
func TestP62SearchState(t *testing.T) {
	all := someValues()
	c := calls()[slices.IndexFunc(calls(), func(c call) bool { return c.name == "Search" })]
	for i := 1; i < len(all); i++ {
		l := slices.Clone(all)
		l[i-1], l[i] = l[i], l[i-1]
		for _, v := range all {
			checkError(t, "two the other way round", c, l, nil, v, api.ErrState)
		}
		checkError(t, "the first behind it", c, []api.Value{all[i], all[i-1]}, nil, all[0], api.ErrState)
		checkError(t, "the last ahead of all", c, append([]api.Value{all[i]}, all...), nil, all[i], api.ErrState)
	}
	for _, l := range [][]api.Value{numbers(1, 2, 3, 4, 5, 4), numbers(1, 0, 2, 3), numbers(1, 1, 2, 1), numbers(10, 9, 8)} {
		for n := -1; n < 12; n++ {
			checkError(t, "numbers in no order", c, l, nil, number(n), api.ErrState)
		}
	}
}

// endless answers a list that holds itself so many times.
func endless(times int) api.Value {
	l := make([]api.Value, times)
	for i := range l {
		l[i] = api.Value{Kind: 5, List: l}
	}
	return l[0]
}

// TestP1Ends: values that hold themselves, or one value so often that nobody can count it, come to an end.
func TestP1Ends(t *testing.T) {
	often := api.Value{Kind: 5}
	for range 60 {
		often = api.Value{Kind: 5, List: []api.Value{often, often}}
	}
	for _, f := range []fault{{endless(1), api.ErrDepth}, {endless(3), api.ErrDepth}, {often, api.ErrCount}, {nested(100000, number(1)), api.ErrDepth}} {
		for _, c := range calls() {
			checkError(t, "an endless value", c, []api.Value{f.v, f.v}, []api.Value{f.v, f.v}, f.v, f.e)
			if c.takesKeys || c.takesValue {
				checkError(t, "an endless key", c, numbers(1), []api.Value{f.v}, f.v, f.e)
			}
		}
	}
}
