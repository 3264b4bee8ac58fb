package kinds

import (
	"testing"

	"bolter/api"
)

// TestP122Entries: one for each key, as these rise.
func TestP122Entries(t *testing.T) {
	entries().table(t, [][2]string{
		{"{}", "[]"}, {`{"a":1}`, `[{"key":"a","value":1}]`}, {`{"b":null,"a":[{"c":false}]}`, `[{"key":"a","value":[{"c":false}]},{"key":"b","value":null}]`}, {`{"":"","é":{}}`, `[{"key":"","value":""},{"key":"é","value":{}}]`}, {`{"key":"value","value":"key"}`, `[{"key":"key","value":"value"},{"key":"value","value":"key"}]`},
	})
	entries().types(t, ofKinds(6))
}

// TestP122EntriesGreat: entries lie deeper than their object, and have more values.
func TestP122EntriesGreat(t *testing.T) {
	deep := func(n int) api.Value { return object([]string{"a"}, nested(n-1, num(1))) }
	entries().check(t, as(list(object([]string{"key", "value"}, text("a"), nested(api.MaxDepth-2, num(1))))), deep(api.MaxDepth-1))
	entries().check(t, no(api.ErrDepth), deep(api.MaxDepth))
	// The list, three for each key, and what is left for one of the values.
	left := api.MaxSize - 1 - 3*api.MaxItems
	wide := func(n int) api.Value {
		return keyed(append(many(api.MaxItems-1, num(7)), list(many(n, num(8))...))...)
	}
	most, all := wide(left), list()
	for i, key := range most.Keys {
		all.List = append(all.List, object([]string{"key", "value"}, text(key), most.List[i]))
	}
	entries().check(t, as(all), most)
	entries().check(t, no(api.ErrCount), wide(left+1))
	// Too deep goes ahead of too many.
	entries().check(t, no(api.ErrDepth), keyed(append(most.List[1:], nested(api.MaxDepth-1, num(1)))...))
}

// TestP122UnentriesKeys: of key, k and name the first that counts; texts, truths and numbers may be one.
func TestP122UnentriesKeys(t *testing.T) {
	unentries().table(t, [][2]string{
		{"[]", "{}"}, {`[{"key":"a","value":1},{"key":"b","value":2}]`, `{"a":1,"b":2}`}, {`[{"key":"b","value":1},{"key":"a","value":2}]`, `{"a":2,"b":1}`},
		{`[{"key":"a"}]`, `{"a":null}`}, {`[{"k":"a"}]`, `{"a":null}`}, {`[{"name":"a"}]`, `{"a":null}`},
		{`[{"key":"a","k":"b","name":"c"}]`, `{"a":null}`}, {`[{"k":"b","name":"c"}]`, `{"b":null}`}, {`[{"key":"a","name":"c"}]`, `{"a":null}`}, {`[{"key":"a","k":"b"}]`, `{"a":null}`},
		// Neither null nor false: the next one.
		{`[{"key":null,"k":"b","name":"c"}]`, `{"b":null}`}, {`[{"key":false,"k":"b","name":"c"}]`, `{"b":null}`}, {`[{"key":null,"k":false,"name":"c"}]`, `{"c":null}`}, {`[{"key":false,"name":"c"}]`, `{"c":null}`}, {`[{"k":null,"name":"c"}]`, `{"c":null}`}, {`[{"key":false,"k":"b"}]`, `{"b":null}`}, {`[{"key":"a","k":false,"name":null}]`, `{"a":null}`},
		{`[{"key":"","k":"b"}]`, `{"":null}`}, {`[{"key":0,"k":"b"}]`, `{"0":null}`}, {`[{"key":true,"k":"b"}]`, `{"true":null}`},
		// All of them null or false: the last one.
		{`[{"key":false}]`, `{"false":null}`}, {`[{"key":null,"k":false}]`, `{"false":null}`}, {`[{"key":null,"name":false}]`, `{"false":null}`}, {`[{"k":null,"name":false}]`, `{"false":null}`}, {`[{"key":null,"k":null,"name":false}]`, `{"false":null}`}, {`[{"key":false,"k":false,"name":false}]`, `{"false":null}`},
		{`[{"key":1.50,"value":1}]`, `{"1.5":1}`}, {`[{"key":-1e30,"value":1}]`, `{"-1e+30":1}`}, {`[{"key":true}]`, `{"true":null}`}, {`[{"key":"null"}]`, `{"null":null}`}, {`[{"key":"\"\u0000é"}]`, `{"\"\u0000é":null}`},
		// Of a key that stands twice the last one counts, whatever tells it.
		{`[{"key":"a","value":1},{"key":"b","value":2},{"k":"a","v":3}]`, `{"a":3,"b":2}`}, {`[{"key":1,"value":1},{"key":"1","value":2}]`, `{"1":2}`}, {`[{"key":"true","value":1},{"key":true}]`, `{"true":null}`}, {`[{"name":false,"v":1},{"name":"false","v":2},{"key":1.0,"v":3},{"key":1,"v":4}]`, `{"1":4,"false":2}`},
		// Other keys tell nothing.
		{`[{"Key":"x","Name":"y","K":"z","name":"a","Value":1,"V":2,"val":3}]`, `{"a":null}`},
	})
}

// TestP122UnentriesValues: of value and v the first that counts.
func TestP122UnentriesValues(t *testing.T) {
	unentries().table(t, [][2]string{
		{`[{"key":"a","value":1}]`, `{"a":1}`}, {`[{"key":"a","v":1}]`, `{"a":1}`}, {`[{"key":"a","value":1,"v":2}]`, `{"a":1}`}, {`[{"key":"a","value":null,"v":2}]`, `{"a":2}`}, {`[{"key":"a","value":false,"v":2}]`, `{"a":2}`}, {`[{"key":"a","value":0,"v":2}]`, `{"a":0}`}, {`[{"key":"a","value":"","v":2}]`, `{"a":""}`}, {`[{"key":"a","value":[],"v":2}]`, `{"a":[]}`},
		{`[{"key":"a","value":1,"v":null}]`, `{"a":1}`}, {`[{"key":"a","value":1,"v":false}]`, `{"a":1}`}, {`[{"key":"a","value":null}]`, `{"a":null}`}, {`[{"key":"a","value":false}]`, `{"a":false}`}, {`[{"key":"a","v":null}]`, `{"a":null}`}, {`[{"key":"a","v":false}]`, `{"a":false}`}, {`[{"key":"a","value":null,"v":false}]`, `{"a":false}`}, {`[{"key":"a","value":false,"v":null}]`, `{"a":null}`}, {`[{"key":"a","value":false,"v":false}]`, `{"a":false}`},
		{`[{"name":"a","v":{"key":"b","value":[1]}}]`, `{"a":{"key":"b","value":[1]}}`},
	})
}

// TestP122UnentriesTypes: values that are no objects, keys that may not be one.
func TestP122UnentriesTypes(t *testing.T) {
	for _, row := range []string{
		`[1]`, `[null]`, `[[]]`, `["a"]`, `[false]`, `[["key","a"]]`, `[{"key":"a"},1]`, `[{"key":"a"},{"key":"b"},null,{"key":"c"}]`,
		`[{}]`, `[{"value":1}]`, `[{"Key":"a"}]`, `[{"key":null}]`, `[{"key":false,"k":null}]`, `[{"k":false,"name":null}]`, `[{"key":false,"k":false,"name":null}]`, `[{"name":null}]`, `[{"key":[]}]`, `[{"key":{}}]`, `[{"key":["a"],"k":"b"}]`, `[{"key":null,"k":{"a":1},"name":"c"}]`, `[{"key":"a"},{}]`,
	} {
		unentries().check(t, no(api.ErrType), one(row))
	}
	unentries().types(t, func(l ...api.Value) bool { return same(l[0], list()) })
}

// TestP122UnentriesGreat: as many as may be.
func TestP122UnentriesGreat(t *testing.T) {
	of := keyed(many(api.MaxItems, num(7))...)
	l := list()
	for _, key := range of.Keys {
		l.List = append(l.List, object([]string{"k", "v"}, text(key), num(7)))
	}
	unentries().check(t, as(of), l)
	unentries().check(t, as(object([]string{"7"}, num(7))), list(many(api.MaxItems, object([]string{"k", "v"}, num(7), num(7)))...))
	key := long("é", api.MaxText/2)
	unentries().check(t, as(object([]string{key.Text}, nested(api.MaxDepth-2, key))), list(object([]string{"key", "value"}, key, nested(api.MaxDepth-2, key))))
}
