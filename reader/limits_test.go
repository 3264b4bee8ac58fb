package reader

import (
	"strconv"
	"strings"
	"testing"

	"bolter/api"
	"bolter/value"
)

// nested answers v in so many lists, objects or both by turns, and its text.
func nested(deep int, v api.Value, b string, wraps ...string) (api.Value, string) {
	for i := range deep {
		if wraps[i%len(wraps)] == "[" {
			v, b = list(v), "["+b+"]"
		} else {
			v, b = object("k", v), `{"k":`+b+"}"
		}
	}
	return v, b
}

func TestP71Depth(t *testing.T) {
	for _, wraps := range [][]string{{"["}, {"{"}, {"[", "{"}, {"{", "{", "["}} {
		for _, inner := range []string{"1", `"a"`, "null", "[]", "{}", "[[]]"} {
			deep := value.Deep(decoded(t, []byte(inner)))
			v, b := nested(64-deep, decoded(t, []byte(inner)), inner, wraps...)
			checkValue(t, b, v)
		}
		for _, deep := range []int{65, 66, 100, 1000} {
			_, b := nested(deep, api.Value{}, "x", wraps...)
			place, open := 0, 0
			for open < 65 {
				if b[place] == '[' || b[place] == '{' {
					open++
				}
				place++
			}
			checkFault(t, b, place-1, api.ErrDepth)
			checkFault(t, b[:place], place-1, api.ErrDepth)
			checkFault(t, b[:place]+"\xff", place-1, api.ErrDepth)
		}
	}
	for n := range 64 {
		checkFault(t, times("[", n+1), n+1, api.ErrShort)
	}
	checkFault(t, times("[", 65), 64, api.ErrDepth)
	checkFault(t, times("[", 65536), 64, api.ErrDepth)
	checkFault(t, times("[", 64)+"1,{", 66, api.ErrDepth)
	// What is closed again counts no more.
	checkFault(t, "["+times("["+times("[", 62)+times("]", 62)+"],", 500), 1+500*127, api.ErrShort)
	checkFault(t, "["+times(`{"a":[]},`, 1000)+times("[", 64), 1+9000+63, api.ErrDepth)
	checkFault(t, times("[", 64)+times("]", 60)+","+times("{\"a\":", 60)+"[", 64+60+1+300, api.ErrDepth)
}

// listed answers a list's text of so many of b, without its end.
func listed(n int, b string) string {
	return "[" + strings.TrimSuffix(times(b+",", n), ",")
}

func TestP71ListCount(t *testing.T) {
	for _, one := range []string{"1", "[]", "{}", "null", `""`, " 7 ", "[1]"} {
		b := listed(4096, one)
		checkValue(t, b+"]", list(many(4096, decoded(t, []byte(one)))...))
		for _, more := range []string{"1", "1]", `"`, `"abc"]`, "[", "[[[", "{", "t", "tx", "nope", "-", "-x", "1e9999,", "\"\xff"} {
			checkFault(t, b+","+more, len(b)+1, api.ErrCount)
			checkFault(t, "["+b+", \n"+more, len(b)+4, api.ErrCount)
			checkFault(t, `{"a":`+b+" ,"+more, len(b)+7, api.ErrCount)
		}
		// None begins there.
		for _, more := range []string{"x", ",", "]", "}", ":", "+", "\xff", "\x00", "."} {
			checkFault(t, b+","+more, len(b)+1, api.ErrSyntax)
		}
		checkFault(t, b+",", len(b)+1, api.ErrShort)
		checkFault(t, b, len(b), api.ErrShort)
	}
	full, outer := listed(4096, "1"), times("[", 63)
	checkFault(t, outer+full+",[", 63+len(full)+1, api.ErrDepth)
	checkFault(t, outer+full+",{", 63+len(full)+1, api.ErrDepth)
	checkFault(t, outer+full+",1", 63+len(full)+1, api.ErrCount)
	// Each list is counted by itself.
	some := listed(3000, "1") + "]"
	checkValue(t, listed(3, some)+"]", list(many(3, list(many(3000, number(1))...))...))
}

// keyed answers an object's text of so many keys, without its end.
func keyed(n int, key func(i int) string, b string) string {
	var out []string
	for i := range n {
		out = append(out, `"`+key(i)+`":`+b)
	}
	return "{" + strings.Join(out, ",")
}

func alike(int) string    { return "k" }
func rising(i int) string { return strconv.Itoa(10000 + i) }
func falling(i int) string {
	return strconv.Itoa(90000 - i)
}

func TestP71KeyCount(t *testing.T) {
	want := api.Value{Kind: 6, List: many(4096, number(1))}
	for i := range 4096 {
		want.Keys = append(want.Keys, rising(i))
	}
	checkValue(t, keyed(4096, rising, "1")+"}", want)
	checkValue(t, keyed(4096, alike, "1")+"}", object("k", number(1)))
	for _, key := range []func(int) string{rising, falling, alike} {
		b := keyed(4096, key, "1")
		if _, n, e := Read([]byte(b + " }")); n != len(b)+2 || e != api.OK {
			t.Errorf("Read of 4096 keys: %d, error %d", n, e)
		}
		for _, more := range []string{`"`, `"a":1}`, `"k`, "\"\xff", `"\x`, `"k":1}`} {
			checkFault(t, b+","+more, len(b)+1, api.ErrCount)
			checkFault(t, "["+b+" , "+more, len(b)+4, api.ErrCount)
			checkFault(t, `{"a":`+b+","+more, len(b)+6, api.ErrCount)
		}
		for _, more := range []string{"x", "}", "1", "[", ",", ":", "\xff"} {
			checkFault(t, b+","+more, len(b)+1, api.ErrSyntax)
		}
		checkFault(t, b+",", len(b)+1, api.ErrShort)
	}
	// The values of an object are no list's.
	checkFault(t, keyed(4096, rising, "[]")+`,"a":[]`, len(keyed(4096, rising, "[]"))+1, api.ErrCount)
	checkFault(t, keyed(4096, rising, "[]")+`:`, len(keyed(4096, rising, "[]")), api.ErrSyntax)
}

// TestP71Size: a value of too many in all, as it ends, the innermost first.
func TestP71Size(t *testing.T) {
	part := listed(4095, "1") + "]" // 4096 values
	three := part + "," + part + "," + part
	fit := listed(4094, "1") + "]"
	for _, last := range []string{fit, listed(4093, "1") + ",[]]", keyed(4094, rising, "1") + "}", "1"} {
		checkValue(t, "["+three+","+last+"]", decoded(t, []byte("["+three+","+last+"]")))
	}
	if n := value.Size(decoded(t, []byte("["+three+","+fit+"]"))); n != 16384 {
		t.Fatal("it is not just as great as it may be:", n)
	}
	over := "[" + three + "," + part
	keys := `{"a":` + part + `,"b":` + part + `,"c":` + part + `,"d":` + part
	checkFault(t, over, len(over), api.ErrShort)
	checkFault(t, over+",", len(over)+1, api.ErrShort)
	for _, behind := range []string{"x", "1", "}", "\xff"} {
		checkFault(t, over+behind, len(over), api.ErrSyntax)
	}
	for _, behind := range []string{"", " ", "]", "x", "[", "\xff"} {
		checkFault(t, over+"]"+behind, 0, api.ErrCount)
		checkFault(t, `{"a":1,"b": `+over+"]"+behind, 12, api.ErrCount)
		checkFault(t, "[[ "+over+"]"+behind, 3, api.ErrCount)
		checkFault(t, keys+"}"+behind, 0, api.ErrCount)
		checkFault(t, "[1,\n"+keys+"}"+behind, 4, api.ErrCount)
	}
	// It is the outer one that is too great, by one.
	checkFault(t, "[["+three+","+fit+"]]", 0, api.ErrCount)
	checkFault(t, "[1,["+three+"],"+fit+"]", 0, api.ErrCount)
	checkFault(t, `{"":[`+three+","+fit+"]}", 0, api.ErrCount)
	checkFault(t, "[[["+three+","+fit+"]]]", 1, api.ErrCount)
}

// TestP71SizeOfKeys: what stood at a key that stands again is no part of the value.
func TestP71SizeOfKeys(t *testing.T) {
	part := listed(4095, "1") + "]"
	b := `{"a":` + part + `,"b":` + part + `,"a":` + part + `,"b":` + part + `,"a":` + part + "}"
	checkValue(t, b, object("a", list(many(4095, number(1))...), "b", list(many(4095, number(1))...)))
	b = `{"c":` + part + `,"b":` + part + `,"a":` + part + `,"d":` + part + `,"d":1}`
	checkValue(t, b, decoded(t, []byte(b)))
	checkFault(t, b[:len(b)-7]+"}", 0, api.ErrCount)
}

func TestP71KeysTwice(t *testing.T) {
	for b, want := range map[string]api.Value{
		`{"a":1,"a":2}`:                               object("a", number(2)),
		`{"a":1,"b":2,"a":3}`:                         object("a", number(3), "b", number(2)),
		`{"b":1,"a":2,"b":3,"a":4,"b":5}`:             object("a", number(4), "b", number(5)),
		`{"a":[1],"a":{}}`:                            object("a", object()),
		`{"a":{"b":1},"a":{"c":2}}`:                   object("a", object("c", number(2))),
		`{"a":{"b":1,"b":2},"a":{"b":3,"b":4},"":[]}`: object("", list(), "a", object("b", number(4))),
		`{"a":1,"\u0061":2}`:                          object("a", number(2)),
		`{"\u00e9":1,"é":2,"\u00E9":3}`:               object("é", number(3)),
		`{"a":1,"A":2}`:                               object("A", number(2), "a", number(1)),
		`{"":1,"":null}`:                              object("", api.Value{}),
		`{"\/":1,"/":2}`:                              object("/", number(2)),
		`[{"a":1},{"a":2}]`:                           list(object("a", number(1)), object("a", number(2))),
	} {
		checkValue(t, b, want)
	}
	checkFault(t, `{"a":[1,"a":2}`, 11, api.ErrSyntax)
	checkFault(t, `{"a":1e9999,"a":2}`, 5, api.ErrExp)
}

// TestP71KeysRise: keys rise by their octets, however they stood.
func TestP71KeysRise(t *testing.T) {
	d := dice(74)
	for range 500 {
		var parts []string
		for _, key := range someTexts() {
			parts = append(parts, d.writtenText(key)+":"+strconv.Itoa(d.below(100)))
		}
		for i := range parts {
			j := d.below(i + 1)
			parts[i], parts[j] = parts[j], parts[i]
		}
		b := "{" + strings.Join(parts, ",") + "}"
		checkValue(t, b, decoded(t, []byte(b)))
	}
	checkValue(t, `{"b":1,"a":2,"B":3,"":4,"aa":5,"é":6,"\uffff":7,"`+"\U00010000"+`":8}`, object("", number(4), "B", number(3), "a", number(2), "aa", number(5), "b", number(1), "é", number(6), "\uffff", number(7), "\U00010000", number(8)))
}

// TestP71Limits: texts that meet limits anywhere, against the judge.
func TestP71Limits(t *testing.T) {
	d := dice(75)
	met := map[api.Errno]int{}
	parts := []string{
		listed(4096, "1"), listed(4095, "[]"), listed(4090, "1") + "],", listed(2000, "1") + "],", keyed(4096, rising, "1"), keyed(4095, alike, "1") + "},", keyed(1000, falling, "[]") + "},",
		times("[", 60), times("{\"a\":", 60), times("]", 30), times("1,", 90), times("1,", 2000), `"` + times("a", 16384), times("a", 16380), `"` + times("b", 16385) + `",`, times("8", 301), "1e1001,",
	}
	for range 1200 {
		made := pick(&d, []string{"", "[", "[", `{"a":`})
		for range 1 + d.below(6) {
			part := pick(&d, parts)
			if len(made)+len(part) < api.MaxBytes-20 {
				made += part
			}
			for range d.below(3) {
				made += pick(&d, []string{",", "]", "}", "[", `"`, "1", `"a":`, " ", "{"})
			}
		}
		met[checkJudged(t, []byte(made), 0).e]++
		if t.Failed() {
			return
		}
	}
	for _, e := range []api.Errno{api.OK, api.ErrShort, api.ErrSyntax, api.ErrDepth, api.ErrCount, api.ErrLong, api.ErrDigits} {
		if met[e] < 10 {
			t.Errorf("error %d came up %d times", e, met[e])
		}
	}
}
