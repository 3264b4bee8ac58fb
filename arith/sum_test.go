package arith

import (
	"slices"
	"strings"
	"testing"

	"bolter/api"
)

// TestP112Sum: null, and all added to it, one by one.
func TestP112Sum(t *testing.T) {
	checkSum(t, is("null"))
	for _, v := range kinds() {
		checkSum(t, as(v), v)
		checkSum(t, as(v), api.Value{}, v, api.Value{})
	}
	for _, row := range [][2]string{
		{"null null null", "null"}, {"1 2 3.5", "6.5"}, {"1 null -1", "0"}, {`"a" "" "b" null "a"`, `"aba"`}, {"[1] [] [2,[3]] [1]", "[1,2,[3],1]"}, {`{"a":1,"b":2} {"b":3} {} {"c":4,"a":5}`, `{"a":5,"b":3,"c":4}`}, {`{"a":{"x":1}} {"a":{"y":1}}`, `{"a":{"y":1}}`}, {"false null", "false"}, {"null true null", "true"}, {"[] []", "[]"}, {`{} {}`, `{}`}, {`"" ""`, `""`}, {"0 0", "0"},
	} {
		checkSum(t, is(row[1]), read(row[0])...)
	}
}

// TestP112SumErrors: an error on the way is the sum's, the first one; what may not be goes ahead of all, wherever it stands.
func TestP112SumErrors(t *testing.T) {
	for _, row := range []string{"1 true", "1 2 [] 3", `1 "a" null`, "null true true", "false false", "true false", `[] {}`, `{} [] {}`, `"" []`, "false 1", "true []", `1 false`} {
		checkSum(t, no(api.ErrType), read(row)...)
	}
	full := list(many(3000, num(1))...)
	checkSum(t, no(api.ErrLong), full, full, num(1))
	checkSum(t, no(api.ErrType), full, num(1), full)
	checkSum(t, no(api.ErrLong), long("a", api.MaxText), text("a"), list())
	checkSum(t, no(api.ErrDigits), one("1e1000"), num(1), list())
	checkSum(t, no(api.ErrDigits), one("1e1000"), num(1), one("-1e1000"))
	checkSum(t, is("1"), one("1e1000"), one("-1e1000"), num(1))
	for _, w := range wrongs() {
		checkSum(t, no(w.e), w.v)
		checkSum(t, no(w.e), num(1), list(), w.v)
		checkSum(t, no(w.e), full, full, w.v, num(1))
		checkSum(t, no(w.e), num(1), num(2), w.v)
		for _, x := range wrongs() {
			checkSum(t, no(w.e), num(1), w.v, list(), x.v)
		}
	}
}

// TestP112SumSteps: what is too great on the way is an error, even if less is left in the end.
func TestP112SumSteps(t *testing.T) {
	full := list(many(api.MaxItems-1, num(1))...) // of MaxItems values in all
	at := func(key string, v api.Value) api.Value { return object([]string{key}, v) }
	checkSum(t, no(api.ErrCount), at("a", full), at("b", full), at("c", full), at("d", full), at("a", num(1)))
	checkSum(t, as(object([]string{"a", "b", "c", "d"}, num(1), full, full, full)), at("a", full), at("b", full), at("c", full), at("a", num(1)), at("d", full))
	checkSum(t, as(object([]string{"a", "b"}, full, full)), at("a", full), at("b", full), at("a", full), at("b", full), at("a", full), at("b", full))
	checkSum(t, no(api.ErrCount), list(full), list(full), list(full), list(full))
	checkSum(t, as(list(full, full, full)), list(full), list(full), list(full))
	checkSum(t, no(api.ErrLong), keyed(0, api.MaxItems, num(1)), at("a", num(1)), num(1))
	checkSum(t, as(keyed(0, api.MaxItems, num(2))), keyed(0, api.MaxItems, num(1)), keyed(0, api.MaxItems, num(2)))
	// Too many values at one place, then in all.
	checkSum(t, no(api.ErrLong), list(many(api.MaxItems, num(1))...), list(num(1)), list(full, full, full))
	checkSum(t, no(api.ErrCount), list(many(api.MaxItems, num(1))...), list(full, full, full), list(num(1)))
}

// TestP112SumMany: many values are added in a time that many take, whatever the sum is.
func TestP112SumMany(t *testing.T) {
	const n = 200000
	wide := keyed(0, api.MaxItems, list(num(1), num(2)))
	last := object(wide.Keys[:1], list(num(3)))
	want := object(wide.Keys, append([]api.Value{list(num(3))}, wide.List[1:]...)...)
	checkSum(t, as(want), append([]api.Value{wide}, many(n, last)...)...)
	great := list(many(api.MaxItems, list(num(1), num(2)))...)
	checkSum(t, as(great), append([]api.Value{great}, many(n, list())...)...)
	checkSum(t, as(great), many(api.MaxItems, list(great.List[0]))...)
	checkSum(t, as(long("é", api.MaxText/2)), append(many(n, text("")), many(api.MaxText/2, text("é"))...)...)
	checkSum(t, as(num(n)), many(n, num(1))...)
	checkSum(t, no(api.ErrLong), many(api.MaxText/2+1, text("é"))...)
}

// TestP112SumWords: whatever is summed up, as the chapter's words say.
func TestP112SumWords(t *testing.T) {
	d := dice(1121)
	met := map[api.Errno]int{}
	for range 10000 {
		a, b := d.two()
		l := []api.Value{a, b}
		for range d.below(5) {
			c, _ := d.two()
			l = append(l, c)
			if both(a, b, 3, 4, 5, 6) && c.Kind != a.Kind && c.Kind != 0 {
				l = l[:len(l)-1]
			}
		}
		want := wantSum(l...)
		checkSum(t, want, l...)
		met[want.e]++
	}
	if met[api.OK] < 3000 || met[api.ErrType] < 1000 {
		t.Error("too few of some kind:", met)
	}
}

// TestP112Order: each operator over values of all kinds, which stand in order here.
func TestP112Order(t *testing.T) {
	l := read(`null false true -1e300 -1.5 0 1 1.5 1e300 "" "a" "aa" "b" "é" [] [null] [1] [1,2] [2] {} {"a":1} {"a":1,"b":0} {"a":2,"b":0} {"b":0}`)
	for i, a := range l {
		for j, b := range l {
			holds := map[string]bool{"==": i == j, "!=": i != j, "<": i < j, "<=": i <= j, ">": i > j, ">=": i >= j}
			for _, op := range operators() {
				want := api.Value{Kind: 1}
				if holds[op] {
					want.Kind = 2
				}
				checkOrder(t, op, a, b, as(want))
			}
		}
	}
}

// TestP112OrderWritten: equal values that were written otherwise.
func TestP112OrderWritten(t *testing.T) {
	for _, row := range [][2]string{{"1.50", "1.5"}, {"1e2", "100"}, {"-0", "0"}, {`"\u0061"`, `"a"`}, {`{"b":1,"a":2}`, `{"a":2.0,"b":1}`}, {"[ 1 , 2 ]", "[1,2]"}} {
		for _, op := range operators() {
			checkOrder(t, op, one(row[0]), one(row[1]), is(map[bool]string{true: "true", false: "false"}[slices.Contains([]string{"==", "<=", ">="}, op)]))
		}
	}
}

// TestP112OrderName: what is no operator, beside values that may not be, too: their error goes ahead.
func TestP112OrderName(t *testing.T) {
	for _, op := range []string{"", "=", "===", "!", "<>", "=<", "=>", " ==", "== ", "<= ", "lt", "+", "<<", "==\x00", "\xff", strings.Repeat("=", 1<<20)} {
		for _, a := range kinds() {
			checkOrder(t, op, a, a, no(api.ErrName))
			checkOrder(t, op, a, num(7), no(api.ErrName))
		}
		for _, w := range wrongs() {
			checkOrder(t, op, w.v, num(1), no(w.e))
			checkOrder(t, op, num(1), w.v, no(w.e))
		}
	}
}
