package printer

import (
	"encoding/json"
	"testing"

	"bolter/api"
	"bolter/value"
)

func TestP91CompactExamples(t *testing.T) {
	one, two := number(1), number(2)
	for want, v := range map[string]api.Value{
		"null": {}, "false": value.Bool(false), "true": value.Bool(true),
		"0": number(0), "1": one, "-12": number(-12), "2.5": decimal("2.50"), "0.00001": decimal("1e-5"), "1e-7": decimal("1e-7"), "1e+30": decimal("1e30"), "100": decimal("1e2"), "-1.2e+1001": decimal("-12e1000"),
		`""`: text(""), `"a b"`: text("a b"), `"/"`: text("/"), `"\n"`: text("\n"), "\"\u00e9\"": text("\u00e9"),
		"[]": list(), "{}": object(nil), "[1]": list(one), "[1,2]": list(one, two), "[2,1,2]": list(two, one, two), "[[]]": list(list()), "[[],{},[]]": list(list(), object(nil), list()), "[[[1],2],1]": list(list(list(one), two), one),
		`{"a":1}`: object([]string{"a"}, one), `{"":{}}`: object([]string{""}, object(nil)), `{"a":1,"b":[1,2],"c":{"a":null}}`: object([]string{"a", "b", "c"}, one, list(one, two), object([]string{"a"}, api.Value{})), `[{"a":"b"},"a: b, c"]`: list(object([]string{"a"}, text("b")), text("a: b, c")),
		`{"\"":"\"","\\n":"\\n"}`: object([]string{`"`, `\n`}, text(`"`), text(`\n`)),
	} {
		checkCompact(t, v, want, api.OK)
	}
}

func TestP91Compact(t *testing.T) {
	for _, v := range someValues() {
		checkCompact(t, v, wantCompact(v), api.OK)
	}
	d := dice(91)
	for range 3000 {
		v := d.value(5)
		want := wantCompact(v)
		checkCompact(t, v, want, api.OK)
		if !json.Valid([]byte(want)) {
			t.Fatalf("the test's own text is none: %s", want)
		}
	}
}

// TestP91CompactEmpty: values that use nothing but what their kinds do, in empty lists as in none.
func TestP91CompactEmpty(t *testing.T) {
	none := api.Value{Num: api.Dec{Coef: []uint32{}}, List: []api.Value{}, Keys: []string{}}
	for kind, want := range []string{"null", "false", "true", "0", `""`, "[]", "{}"} {
		none.Kind = kind
		checkCompact(t, none, want, api.OK)
	}
}

func TestP91CompactWrong(t *testing.T) {
	eachWrong(t, func(what string, v api.Value, e api.Errno) {
		got, f := Compact(v)
		checkText(t, "Compact", what, got, f, "", e)
	})
}

func TestP91CompactLong(t *testing.T) {
	for _, last := range endings() {
		v := sized(most, last, wantCompact)
		checkCompact(t, v, wantCompact(v), api.OK)
		for _, over := range []int{1, 2, 3, 5, 7, 100, 1000} {
			checkCompact(t, grown(v, over), "", api.ErrLong)
		}
	}
	v := sized(most-1, list(), wantCompact)
	checkCompact(t, v, wantCompact(v), api.OK)
	checkCompact(t, grown(v, 1), wantCompact(grown(v, 1)), api.OK)
	// The octets that are told count, not those that are held.
	checkCompact(t, list(many(11, text(times("\x00", api.MaxText)))...), "", api.ErrLong)
	v = list(many(10, text(times("\x00", api.MaxText)))...)
	checkCompact(t, v, wantCompact(v), api.OK)
	v = object(keys(65), many(65, text(times("a", api.MaxText)))...)
	checkCompact(t, v, "", api.ErrLong)
	v.Keys, v.List = v.Keys[2:], v.List[2:]
	checkCompact(t, v, wantCompact(v), api.OK)
	all := list(many(16, list(many(1000, text(times("a", api.MaxText)))...))...)
	checkCompact(t, all, "", api.ErrLong)
	// An error of the value goes ahead of that.
	all.List[15].List[999] = text("\xff")
	checkCompact(t, all, "", api.ErrText)
}
