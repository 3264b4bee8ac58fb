package format

import (
	"slices"
	"strings"
	"testing"

	"bolter/api"
)

// TestP142Row: fields of each kind, with commas between.
func TestP142Row(t *testing.T) {
	commas().values(t, [][2]string{
		{`[]`, ``}, {`[null]`, ``}, {`[false]`, `false`}, {`[true]`, `true`}, {`[1.50]`, `1.5`}, {`[-1e30]`, `-1e+30`}, {`[""]`, `""`}, {`["a"]`, `"a"`}, {`["1"]`, `"1"`}, {`["null"]`, `"null"`},
		{`[null,null]`, `,`}, {`[null,null,null]`, `,,`}, {`[1,null]`, `1,`}, {`[null,1]`, `,1`}, {`["",""]`, `"",""`}, {`[null,"",null]`, `,"",`}, {`["a\"b",1,null]`, `"a""b",1,`}, {`[1,2.50,true,false,null,"x"]`, `1,2.5,true,false,,"x"`},
		{`["\""]`, `""""`}, {`["\"\""]`, `""""""`}, {`["a\"b\"c"]`, `"a""b""c"`}, {`[",",1]`, `",",1`}, {`["a,b","c"]`, `"a,b","c"`}, {`["a b"," "]`, `"a b"," "`},
		{`["a\nb","\r\n"]`, "\"a\nb\",\"\r\n\""}, {`["a\tb","a\\b"]`, "\"a\tb\",\"a\\b\""}, {`["\u0000\u007f"]`, "\"\x00\x7f\""}, {`["é","€😀"]`, `"é","€😀"`}, {`["'"]`, `"'"`},
	})
}

// TestP142RowTabs: with tabs between, and four octets of texts as two each.
func TestP142RowTabs(t *testing.T) {
	tabs().values(t, [][2]string{
		{`[]`, ``}, {`[null]`, ``}, {`[false]`, `false`}, {`[true]`, `true`}, {`[1.50]`, `1.5`}, {`[-1e30]`, `-1e+30`}, {`[""]`, ``}, {`["a"]`, `a`},
		{`[null,null]`, "\t"}, {`["",null,""]`, "\t\t"}, {`[1,"a"]`, "1\ta"}, {`["a\"b",1,null]`, "a\"b\t1\t"}, {`[1,2.50,true,false,null,"x"]`, "1\t2.5\ttrue\tfalse\t\tx"},
		{`["\\"]`, `\\`}, {`["\n"]`, `\n`}, {`["\r"]`, `\r`}, {`["\t"]`, `\t`}, {`["\\n"]`, `\\n`}, {`["\\\\"]`, `\\\\`}, {`["\\\n\r\t\\"]`, `\\\n\r\t\\`}, {`["a\tb\\c","d\ne\rf"]`, `a\tb\\c` + "\t" + `d\ne\rf`},
		{`["a,b","'"]`, "a,b\t'"}, {`["\u0000\u000b\f\b\u007f"]`, "\x00\v\f\b\x7f"}, {`["é","€😀"]`, "é\t€😀"},
	})
}

// TestP142Octets: each octet of a text alone, in rows and in words of a shell.
func TestP142Octets(t *testing.T) {
	byTabs := map[string]string{`\`: `\\`, "\n": `\n`, "\r": `\r`, "\t": `\t`}
	for char := range rune(0x300) {
		s := string(char)
		twice, octets, word := s, s, s
		if s == `"` {
			twice = `""`
		}
		if byTabs[s] != "" {
			octets = byTabs[s]
		}
		if s == "'" {
			word = `'\''`
		}
		commas().check(t, as(`"`+twice+`"`), list(text(s)))
		commas().check(t, as(`"a`+twice+twice+`b",1`), list(text("a"+s+s+"b"), num(1)))
		tabs().check(t, as(octets), list(text(s)))
		tabs().check(t, as("1\ta"+octets+octets+"b"), list(num(1), text("a"+s+s+"b")))
		shell().check(t, as("'"+word+"'"), text(s))
		shell().check(t, as("'a"+word+word+"b' 1"), list(text("a"+s+s+"b"), num(1)))
	}
}

// TestP142RowType: what is no list, and what a row can't have in it, wherever it stands.
func TestP142RowType(t *testing.T) {
	for _, c := range []call{commas(), tabs()} {
		c.fails(t, api.ErrType, `null`, `false`, `true`, `0`, `1.5`, `""`, `"a"`, `"[1]"`, `{}`, `{"a":1}`, `{"0":"a","1":"b"}`)
		c.fails(t, api.ErrType, `[[]]`, `[{}]`, `[[1]]`, `[{"a":1}]`, `[1,[2]]`, `[[1],2]`, `[null,{}]`, `["a",{},1]`, `["a",1,[]]`, `[[],{}]`, `[[[]]]`)
		c.check(t, no(api.ErrType), list(append(many(api.MaxItems-1, num(1)), list())...))
		// Where something can't be written there is no answer that might be too long.
		c.check(t, no(api.ErrType), list(text(times("a", most)), text("a"), list()))
		c.check(t, no(api.ErrType), list(append(many(99, text(times("a", most))), object(nil))...))
	}
}

// TestP142Shell: values of each kind alone, and in a list.
func TestP142Shell(t *testing.T) {
	shell().values(t, [][2]string{
		{`null`, `null`}, {`false`, `false`}, {`true`, `true`}, {`0`, `0`}, {`-1.50`, `-1.5`}, {`1e30`, `1e+30`}, {`""`, `''`}, {`"a"`, `'a'`}, {`"null"`, `'null'`}, {`"a b"`, `'a b'`},
		{`"'"`, `''\'''`}, {`"it's"`, `'it'\''s'`}, {`"''"`, `''\'''\'''`}, {`"\""`, `'"'`}, {`"$x \\ ! ; & | \u0060"`, "'$x \\ ! ; & | `'"}, {`"a\nb\t\u0000"`, "'a\nb\t\x00'"}, {`"é😀"`, `'é😀'`},
		{`[]`, ``}, {`[null]`, `null`}, {`[false]`, `false`}, {`[""]`, `''`}, {`["",""]`, `'' ''`}, {`[1,"a",null,true,false,"it's"]`, `1 'a' null true false 'it'\''s'`}, {`[null,null]`, `null null`}, {`[1,2,3]`, `1 2 3`}, {`["[1]"]`, `'[1]'`},
	})
}

// TestP142ShellType: lists and objects in a list, and an object alone.
func TestP142ShellType(t *testing.T) {
	c := shell()
	c.fails(t, api.ErrType, `{}`, `{"a":1}`, `{"0":"a"}`, `[[]]`, `[{}]`, `[[1]]`, `[{"a":1}]`, `[1,[2]]`, `[[1],2]`, `["a",{},1]`, `[null,[]]`, `[[[]]]`)
	c.check(t, no(api.ErrType), list(append(many(api.MaxItems-1, num(1)), list())...))
	c.check(t, no(api.ErrType), list(text(times("a", most)), text("a"), list()))
	c.check(t, no(api.ErrType), list(append(many(99, text(times("'", most))), object(nil))...))
}

// lineEdge holds that a call of a list tells a text of just MaxText octets, and ErrLong where a field is one octet longer, or one more stands there.
func lineEdge(t *testing.T, c call, want string, l ...api.Value) {
	t.Helper()
	if len(want) != most {
		t.Fatalf("%s: %d octets are no edge", c.name, len(want))
	}
	c.check(t, as(want), list(l...))
	c.check(t, no(api.ErrLong), list(append(slices.Clone(l), api.Value{})...))
	c.check(t, no(api.ErrLong), list(append([]api.Value{{}}, l...)...))
	c.check(t, no(api.ErrLong), list(append(slices.Clone(l), l...)...))
	for i, v := range l {
		if v.Kind == 4 && len(v.Text) < most {
			longer := slices.Clone(l)
			longer[i] = text("a" + v.Text)
			c.check(t, no(api.ErrLong), list(longer...))
		}
	}
}

// TestP142Long: just MaxText octets, and one more: texts, what stands around and between them, and instead of their octets.
func TestP142Long(t *testing.T) {
	a := func(n int) string { return times("a", n) }
	lineEdge(t, commas(), `"`+a(most-2)+`"`, text(a(most-2)))
	lineEdge(t, commas(), `"`+a(most-7)+`",12,,`, text(a(most-7)), num(12), api.Value{}, api.Value{})
	lineEdge(t, commas(), `"`+times(`""`, most/2-1)+`"`, text(times(`"`, most/2-1)))
	lineEdge(t, commas(), times("123,", most/4-1)+`"ab"`, append(many(most/4-1, num(123)), text("ab"))...)
	lineEdge(t, tabs(), a(most), text(a(most)))
	lineEdge(t, tabs(), a(most-5)+"\t12\t\t", text(a(most-5)), num(12), api.Value{}, api.Value{})
	for octet, two := range map[string]string{`\`: `\\`, "\n": `\n`, "\r": `\r`, "\t": `\t`} {
		lineEdge(t, tabs(), times(two, most/2), text(times(octet, most/2)))
	}
	lineEdge(t, tabs(), times("\u00e9", most/2), text(times("\u00e9", most/2)))
	lineEdge(t, shell(), "'"+a(most-2)+"'", text(a(most-2)))
	lineEdge(t, shell(), "'"+a(most-10)+"' 12 null", text(a(most-10)), num(12), api.Value{})
	lineEdge(t, shell(), "'a"+times(`'\''`, most/4-1)+"a'", text("a"+times("'", most/4-1)+"a"))
	shell().check(t, as("'"+a(most-2)+"'"), text(a(most-2)))
	for _, v := range []api.Value{text(a(most - 1)), text(a(most)), text(times("'", most/4)), text(times("'", most))} {
		shell().check(t, no(api.ErrLong), v)
		commas().check(t, no(api.ErrLong), list(v, text(a(most))))
	}
}

// TestP142Great: as many values as may be, and far more octets than may be told.
func TestP142Great(t *testing.T) {
	all := func(v api.Value) api.Value { return list(many(api.MaxItems, v)...) }
	commas().check(t, as(times(",", api.MaxItems-1)), all(api.Value{}))
	tabs().check(t, as(times("\t", api.MaxItems-1)), all(text("")))
	tabs().check(t, as(strings.TrimSuffix(times("1.5\t", api.MaxItems), "\t")), all(one("1.5")))
	shell().check(t, as(strings.TrimSuffix(times("'' ", api.MaxItems), " ")), all(text("")))
	shell().check(t, no(api.ErrLong), all(api.Value{}))
	for _, c := range []call{commas(), tabs(), shell()} {
		c.check(t, no(api.ErrLong), all(text(times("'", most))))
		c.check(t, no(api.ErrLong), all(one("-1e-1000")))
		c.check(t, as("1"), list(num(1)))
	}
}

// TestP142First: what may not be is told ahead of all else.
func TestP142First(t *testing.T) {
	for _, w := range wrongs() {
		for _, c := range []call{commas(), tabs(), shell()} {
			c.check(t, no(w.e), w.v)
		}
	}
}

// TestP142Words: whatever is written, as the chapter's words say.
func TestP142Words(t *testing.T) {
	d := dice(1421)
	for _, c := range []call{commas(), tabs(), shell()} {
		met := map[api.Errno]int{}
		for range 20000 {
			v := d.value(3)
			want := want(c.name, v)
			c.check(t, want, v)
			met[want.e]++
		}
		if met[api.OK] < 5000 || met[api.ErrType] < 3000 {
			t.Errorf("%s: too few of some kind: %v", c.name, met)
		}
	}
}
