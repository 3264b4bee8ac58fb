package arith

import (
	"strings"
	"testing"

	"bolter/api"
	"bolter/value"
)

func add() call { return call{"Add", Add} }

// TestP111AddNull: null and any value, either way round.
func TestP111AddNull(t *testing.T) {
	for _, v := range append(kinds(), nested(api.MaxDepth, num(1)), list(many(api.MaxItems, text("x"))...), keyed(0, api.MaxItems, num(1)), long("é", api.MaxText/2)) {
		add().check(t, api.Value{}, v, as(v))
		add().check(t, v, api.Value{}, as(v))
	}
}

// TestP111Add: two of one kind, empty ones, too.
func TestP111Add(t *testing.T) {
	add().table(t, [][3]string{
		{"1.50", "0.5", "2"}, {"1", "-1", "0"}, {"0.1", "0.2", "0.3"}, {"0", "0", "0"}, {"1e30", "1", "1000000000000000000000000000001"}, {"-3", "1.25", "-1.75"}, {"1e-200", "0", "1e-200"},
		{`"a"`, `"b"`, `"ab"`}, {`"b"`, `"a"`, `"ba"`}, {`""`, `"a"`, `"a"`}, {`"a"`, `""`, `"a"`}, {`""`, `""`, `""`}, {`"é\u0000"`, `"€"`, `"é\u0000€"`},
		{"[1,2]", "[3]", "[1,2,3]"}, {"[3]", "[1,2]", "[3,1,2]"}, {"[]", "[1]", "[1]"}, {"[1]", "[]", "[1]"}, {"[]", "[]", "[]"}, {"[1]", "[1]", "[1,1]"}, {"[null,[2]]", `[[2],{"a":1}]`, `[null,[2],[2],{"a":1}]`},
		{`{"a":1}`, `{"a":2}`, `{"a":2}`}, {`{"a":1}`, `{"b":2}`, `{"a":1,"b":2}`}, {`{"b":2}`, `{"a":1}`, `{"a":1,"b":2}`}, {`{"a":1,"c":3}`, `{"b":2,"c":4,"d":5}`, `{"a":1,"b":2,"c":4,"d":5}`},
		{`{}`, `{"a":1}`, `{"a":1}`}, {`{"a":1}`, `{}`, `{"a":1}`}, {`{}`, `{}`, `{}`}, {`{"":1}`, `{"":null}`, `{"":null}`}, {`{"é":1,"z":2}`, `{"é":[],"zz":3}`, `{"z":2,"zz":3,"é":[]}`},
		// What both have is not put together.
		{`{"a":{"x":1}}`, `{"a":{"y":2}}`, `{"a":{"y":2}}`}, {`{"a":[1]}`, `{"a":[2]}`, `{"a":[2]}`}, {`{"a":1}`, `{"a":null}`, `{"a":null}`},
	})
}

// TestP111AddTypes: every pair of kinds.
func TestP111AddTypes(t *testing.T) {
	add().types(t, func(a, b api.Value) bool { return a.Kind == 0 || b.Kind == 0 || both(a, b, 3, 4, 5, 6) })
}

// TestP111AddNumbers: what dec tells of numbers.
func TestP111AddNumbers(t *testing.T) {
	add().check(t, one("1e1000"), one("1"), no(api.ErrDigits))
	add().check(t, one("1e299"), one("1"), is("1"+strings.Repeat("0", 298)+"1"))
	add().check(t, one("9e1000"), one("1e1000"), no(api.ErrExp))
	add().check(t, one("9e1000"), one("-8e1000"), is("1e1000"))
}

// TestP111AddLimits: as much as may be, and more.
func TestP111AddLimits(t *testing.T) {
	add().check(t, long("a", api.MaxText-2), text("é"), as(text(strings.Repeat("a", api.MaxText-2)+"é")))
	add().check(t, long("a", api.MaxText-1), text("é"), no(api.ErrLong))
	add().check(t, long("é", api.MaxText/2), text(""), as(long("é", api.MaxText/2)))
	add().check(t, long("a", api.MaxText), long("a", api.MaxText), no(api.ErrLong))
	add().check(t, list(many(4000, num(1))...), list(many(96, num(1))...), as(list(many(api.MaxItems, num(1))...)))
	add().check(t, list(many(4000, num(1))...), list(many(97, num(1))...), no(api.ErrLong))
	add().check(t, keyed(0, 4000, num(1)), keyed(3900, 196, num(1)), as(keyed(0, api.MaxItems, num(1))))
	add().check(t, keyed(0, 4000, num(1)), keyed(3900, 197, num(1)), no(api.ErrLong))
	add().check(t, keyed(0, api.MaxItems, num(1)), keyed(0, api.MaxItems, num(2)), as(keyed(0, api.MaxItems, num(2))))
	add().check(t, nested(api.MaxDepth, num(1)), list(num(2)), as(list(nested(api.MaxDepth-1, num(1)), num(2))))
}

// TestP111AddCount: as many values as may be, and more, which goes ahead of too many at one place.
func TestP111AddCount(t *testing.T) {
	full := list(many(api.MaxItems-1, num(1))...) // of MaxItems values in all
	add().check(t, list(full, full, full), list(list(many(api.MaxItems-2, num(1))...)), as(list(full, full, full, list(many(api.MaxItems-2, num(1))...))))
	add().check(t, list(full, full, full), list(full), no(api.ErrCount))
	add().check(t, list(full, full), list(full, full), no(api.ErrCount))
	add().check(t, list(append(many(4000, num(1)), full, full)...), list(append(many(4000, num(1)), full)...), no(api.ErrCount))
	a, b := object([]string{"a", "b", "c"}, full, full, full), object([]string{"d"}, full)
	add().check(t, a, b, no(api.ErrCount))
	add().check(t, b, a, no(api.ErrCount))
	// What b has instead of a's counts, not what a had.
	add().check(t, a, object([]string{"c", "d"}, num(1), full), as(object([]string{"a", "b", "c", "d"}, full, full, num(1), full)))
	add().check(t, object([]string{"a", "b", "c", "d"}, full, full, num(1), full), a, no(api.ErrCount))
	add().check(t, a, a, as(a))
	most := keyed(0, 4000, list(num(1), num(1)))
	add().check(t, most, keyed(4000, 4000, num(1)), no(api.ErrLong))
	add().check(t, most, keyed(4000, 4000, list(num(1))), no(api.ErrCount))
	if value.Size(most)+4000 > api.MaxSize || value.Size(most)+8000 <= api.MaxSize {
		t.Error("the edges are elsewhere:", value.Size(most))
	}
}

// TestP111AddWords: whatever is added, as the chapter's words say.
func TestP111AddWords(t *testing.T) {
	d := dice(1111)
	for range 20000 {
		a, b := d.two()
		add().check(t, a, b, wantOf("Add", a, b))
	}
}
