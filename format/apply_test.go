package format

import (
	"slices"
	"testing"

	"bolter/api"
)

// TestP143Names: all of them, in their order, and nothing else; each is one that Apply knows.
func TestP143Names(t *testing.T) {
	for range 3 {
		if got := Names(); !slices.Equal(got, allNames()) {
			t.Errorf("names: %q", got)
		}
	}
	for _, name := range Names() {
		if _, e := Apply(name, list()); e == api.ErrName {
			t.Errorf("Apply knows no %s", name)
		}
	}
}

// TestP143Texts: a text in each form.
func TestP143Texts(t *testing.T) {
	for name, want := range map[string]string{"text": `Z<"é'`, "json": `"Z<\"é'"`, "base64": "WjwiwqnDqSc=", "uri": "Z%3C%22%C3%A9%27", "html": "Z&lt;&quot;é&#39;", "sh": `'Z<"é'\'''`} {
		v := text(`Z<"é'`)
		if name == "base64" {
			v = text("Z<\"\u00a9é'")
		}
		apply(name).check(t, as(want), v)
	}
	apply("base64d").check(t, as("ab"), text("YWI="))
	apply("base64d").check(t, no(api.ErrCorrupt), text("YWI=\n"))
	for _, name := range []string{"csv", "tsv"} {
		apply(name).check(t, no(api.ErrType), text("a"))
	}
	for _, s := range someTexts() {
		apply("text").check(t, as(s), text(s))
	}
}

// TestP143Others: a number, null, true, a list, an object in each form: of their plain texts, but rows and words of a shell.
func TestP143Others(t *testing.T) {
	const l, o = `[1.50,"a<",null]`, `{"b":[],"a":"é"}`
	rows := map[string][][2]string{
		"text":    {{"1.50", "1.5"}, {"null", "null"}, {"true", "true"}, {l, `[1.5,"a<",null]`}, {o, `{"a":"é","b":[]}`}},
		"json":    {{"1.50", "1.5"}, {"null", "null"}, {"true", "true"}, {l, `[1.5,"a<",null]`}, {o, `{"a":"é","b":[]}`}},
		"base64":  {{"1.50", "MS41"}, {"null", "bnVsbA=="}, {"true", "dHJ1ZQ=="}, {l, "WzEuNSwiYTwiLG51bGxd"}, {o, "eyJhIjoiw6kiLCJiIjpbXX0="}},
		"base64d": {{"1234", "\ufffdm\ufffd"}, {"null", "\ufffd\ufffde"}, {"true", "\ufffd\ufffd\ufffd"}, {"123", "\ufffdm"}, {"12", "\ufffd"}},
		"uri":     {{"1.50", "1.5"}, {"1e30", "1e%2B30"}, {"null", "null"}, {"true", "true"}, {l, "%5B1.5%2C%22a%3C%22%2Cnull%5D"}, {o, "%7B%22a%22%3A%22%C3%A9%22%2C%22b%22%3A%5B%5D%7D"}},
		"html":    {{"1.50", "1.5"}, {"null", "null"}, {"true", "true"}, {l, "[1.5,&quot;a&lt;&quot;,null]"}, {o, "{&quot;a&quot;:&quot;é&quot;,&quot;b&quot;:[]}"}},
		"csv":     {{l, `1.5,"a<",`}, {"[]", ""}},
		"tsv":     {{l, "1.5\ta<\t"}, {"[]", ""}},
		"sh":      {{"1.50", "1.5"}, {"null", "null"}, {"true", "true"}, {l, "1.5 'a<' null"}, {"[]", ""}},
	}
	for name, rows := range rows {
		apply(name).values(t, rows)
	}
	apply("base64d").fails(t, api.ErrCorrupt, "1", "12345", "1.5", "-12", "false", l, o, "[]", "{}")
	for _, name := range []string{"csv", "tsv"} {
		apply(name).fails(t, api.ErrType, "1.5", "null", "true", o, "[[]]", "[1,{}]")
	}
	apply("sh").fails(t, api.ErrType, o, "{}", "[[]]", "[1,{}]")
}

// TestP143NoName: names that are none, whatever the value.
func TestP143NoName(t *testing.T) {
	for _, name := range []string{"", " ", "a", "texts", "Text", "JSON", "text ", " text", "base", "base64 base64d", "base6", "base64e", "base32", "@csv", "cs", "csv\x00", "csvtsv", "s", "\u00e9", "text json", "\ufffd", times("a", 1<<17)} {
		for _, v := range []string{`"a"`, `1`, `null`, `[1]`, `{}`, `[[]]`} {
			apply(name).fails(t, api.ErrName, v)
		}
		apply(name).check(t, no(api.ErrName), list(many(api.MaxItems, text(times("a", most)))...))
	}
}

// TestP143First: a name that is no text goes ahead of a value that may not be, that ahead of a name that is none, and all of it ahead of the rest.
func TestP143First(t *testing.T) {
	for _, w := range wrongs() {
		for _, name := range append(allNames(), "", "none", times("a", most+1)) {
			apply(name).check(t, no(w.e), w.v)
		}
		for _, name := range wrongTexts() {
			apply(name).check(t, no(api.ErrText), w.v)
		}
	}
	for _, name := range wrongTexts() {
		apply(name).fails(t, api.ErrText, `"a"`, `1`, `null`, `[1]`, `{}`, `[[]]`)
	}
}

// TestP143Long: plain texts, and what is made of them, of just MaxText octets, and of one more.
func TestP143Long(t *testing.T) {
	a := func(n int) string { return times("a", n) }
	apply("text").edge(t, "a", 1, most-1, 1)
	apply("text").check(t, as(`["`+a(most-4)+`"]`), list(text(a(most-4))))
	apply("json").check(t, as(`"`+a(most-2)+`"`), text(a(most-2)))
	apply("json").check(t, as(`["`+a(most-4)+`"]`), list(text(a(most-4))))
	apply("json").check(t, no(api.ErrLong), text(a(most-1)))
	apply("json").check(t, no(api.ErrLong), text(times("\x01", most/6+1)))
	apply("base64").check(t, as(times("YWFh", most/4)), text(a(most/4*3)))
	apply("base64").check(t, no(api.ErrLong), text(a(most/4*3+1)))
	apply("base64").check(t, no(api.ErrLong), list(text(a(most/4*3-3))))
	apply("base64d").check(t, as(times("i\ufffd\ufffd", 2)), text(times("aaaa", 2)))
	apply("base64d").check(t, no(api.ErrLong), text(times("////", most/4)))
	apply("uri").check(t, as(times("%20", most/3)+"a"), text(times(" ", most/3)+"a"))
	apply("uri").check(t, no(api.ErrLong), text(times(" ", most/3)+"aa"))
	apply("html").check(t, as(times("&lt;", most/4)), text(times("<", most/4)))
	apply("html").check(t, no(api.ErrLong), text(times("<", most/4)+"a"))
	apply("html").check(t, no(api.ErrLong), list(text(times("<", most/4-3))))
	apply("csv").check(t, as(`"`+a(most-2)+`"`), list(text(a(most-2))))
	apply("csv").check(t, no(api.ErrLong), list(text(a(most-1))))
	apply("tsv").check(t, as(a(most-1)+"\t"), list(text(a(most-1)), api.Value{}))
	apply("tsv").check(t, no(api.ErrLong), list(text(a(most)), api.Value{}))
	apply("sh").check(t, as("'"+a(most-2)+"'"), text(a(most-2)))
	apply("sh").check(t, no(api.ErrLong), text(a(most-1)))
	// What has no plain text, as that would be too long, has none that could be corrupt.
	for _, v := range []api.Value{list(text(a(most - 3))), list(many(api.MaxItems, text(a(most)))...)} {
		for _, name := range []string{"text", "json", "base64", "base64d", "uri", "html"} {
			apply(name).check(t, no(api.ErrLong), v)
		}
	}
}

// TestP143Words: whatever name and value, as the chapter's words say.
func TestP143Words(t *testing.T) {
	d := dice(1431)
	for _, name := range append(allNames(), "none") {
		met := map[api.Errno]int{}
		for range 5000 {
			c, v := apply(name), d.value(2)
			want := want(c.name, v)
			c.check(t, want, v)
			met[want.e]++
		}
		if name != "none" && met[api.OK] < 300 {
			t.Errorf("%s: too few of some kind: %v", name, met)
		}
	}
}
