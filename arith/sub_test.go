package arith

import (
	"fmt"
	"slices"
	"testing"

	"bolter/api"
)

func sub() call { return call{"Sub", Sub} }

// TestP111Sub: numbers; lists, without all that another one has.
func TestP111Sub(t *testing.T) {
	sub().table(t, [][3]string{
		{"1.5", "0.25", "1.25"}, {"1", "1", "0"}, {"0", "2", "-2"}, {"-1", "-1.5", "0.5"}, {"0", "0", "0"}, {"1e30", "1", "999999999999999999999999999999"},
		{"[1,2,3]", "[2]", "[1,3]"}, {"[3,1,2]", "[1]", "[3,2]"}, {"[1,2,1,3,1]", "[1]", "[2,3]"}, {"[1,2,1,3,1]", "[1,1]", "[2,3]"}, {"[1,1,2,2]", "[3,4]", "[1,1,2,2]"}, {"[1,2]", "[2,1]", "[]"}, {"[1,1]", "[1,5,1]", "[]"},
		{"[]", "[1]", "[]"}, {"[1]", "[]", "[1]"}, {"[]", "[]", "[]"}, {"[[1]]", "[1]", "[[1]]"}, {"[1]", "[[1]]", "[1]"}, {"[[],{},null]", "[[]]", "[{},null]"}, {"[[],{},null]", "[{}]", "[[],null]"},
		// Equal values, however they were written.
		{"[1.50,2]", "[1.5]", "[2]"}, {"[100,1e2,10e1,1]", "[1.0e2]", "[1]"}, {"[0,-0,0.0]", "[0e5]", "[]"}, {`["\u0061","b"]`, `["a"]`, `["b"]`}, {`[{"b":1,"a":[2.0]},3]`, `[{"a":[2],"b":1.0}]`, "[3]"}, {`[{"a":2,"a":1}]`, `[{"a":1}]`, "[]"},
		// What looks alike, but is none of them.
		{`[1,"1",true,[1],{"1":1},null,false,0,""]`, `["1"]`, `[1,true,[1],{"1":1},null,false,0,""]`}, {`[null,false,0,"",[],{}]`, `[null]`, `[false,0,"",[],{}]`}, {`[null,false,0,"",[],{}]`, `[false,[]]`, `[null,0,"",{}]`}, {`[-1,1]`, `[1]`, `[-1]`},
		{`[null,null,1]`, `[null]`, `[1]`}, {`[[1,2],[1],[1,2,3]]`, `[[1,2]]`, `[[1],[1,2,3]]`}, {`[{"a":1},{"a":1,"b":2},{"a":2}]`, `[{"a":1}]`, `[{"a":1,"b":2},{"a":2}]`}, {`["a","A","aa","é"]`, `["a","é"]`, `["A","aa"]`}, {`[{"a":null},{}]`, `[{}]`, `[{"a":null}]`},
	})
}

// TestP111SubTypes: every pair of kinds; null, too.
func TestP111SubTypes(t *testing.T) {
	sub().types(t, func(a, b api.Value) bool { return both(a, b, 3, 5) })
}

// TestP111SubNumbers: what dec tells of numbers.
func TestP111SubNumbers(t *testing.T) {
	sub().check(t, one("1e1000"), one("1"), no(api.ErrDigits))
	sub().check(t, one("9e1000"), one("-1e1000"), no(api.ErrExp))
	sub().check(t, one("1e-1000"), one("1e-1000"), is("0"))
}

// TestP111SubMany: lists as long as may be, and values as great.
func TestP111SubMany(t *testing.T) {
	a, b, left := list(), list(), list()
	for i := range api.MaxItems {
		a.List = append(a.List, list(num(i*7%api.MaxItems), text("x")))
		b.List = append(b.List, list(num(2*i), text("x")))
	}
	for _, part := range a.List {
		if part.List[0].Num.Exp == 0 && part.List[0].Num.Coef != nil && part.List[0].Num.Coef[0]%2 == 1 {
			left.List = append(left.List, part)
		}
	}
	sub().check(t, a, b, as(left))
	sub().check(t, a, a, as(list()))
	sub().check(t, a, list(), as(a))
	sub().check(t, list(), a, as(list()))
	great := list(many(4000, text("x"))...)
	other := list(append(many(3999, text("x")), text("y"))...)
	sub().check(t, list(great, other, great), list(great), as(list(other)))
	sub().check(t, list(great, other, great), list(other, other), as(list(great, great)))
	deep := nested(api.MaxDepth-1, num(1))
	sub().check(t, list(deep, num(1), nested(api.MaxDepth-1, num(2))), list(deep), as(list(num(1), nested(api.MaxDepth-1, num(2)))))
}

// TestP111SubGreat: one great value among many small ones is not gone through again and again, nor are long texts that differ at their ends.
func TestP111SubGreat(t *testing.T) {
	a, b := list(), list()
	for i := range 2000 {
		s := long("s", api.MaxText-8).Text
		a.List = append(a.List, text(s+fmt.Sprint(i)))
		b.List = append(b.List, text(s+fmt.Sprint(i+1000)))
	}
	for range 3 {
		a.List = append(a.List, keyed(0, 2000, list(num(1))))
	}
	sub().check(t, a, b, as(list(slices.Concat(a.List[:1000], a.List[2000:])...)))
}

// TestP111SubWords: whatever is taken away, as the chapter's words say.
func TestP111SubWords(t *testing.T) {
	d := dice(1112)
	fewer := 0
	for range 20000 {
		a, b := d.two()
		want := wantOf("Sub", a, b)
		sub().check(t, a, b, want)
		if n := len(want.v.List); n > 0 && n < len(a.List) {
			fewer++
		}
	}
	if fewer < 1000 {
		t.Error("too seldom some are left:", fewer)
	}
}
