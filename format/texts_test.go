package format

import (
	"fmt"
	"testing"

	"bolter/api"
)

// TestP141URI: each octet: the 66 that stay, and all others as % and two great digits.
func TestP141URI(t *testing.T) {
	const stay = "ABCDEFGHIJKLMNOPQRSTUVWXYZabcdefghijklmnopqrstuvwxyz0123456789-_.~"
	stays := map[rune]bool{}
	for _, octet := range stay {
		stays[octet] = true
	}
	uri().check(t, as(stay), text(stay))
	met := 0
	for octet := range rune(0x80) {
		want := fmt.Sprintf("%%%02X", octet)
		if stays[octet] {
			want = string(octet)
			met++
		}
		uri().check(t, as(want), text(string(octet)))
		uri().check(t, as("a"+want+want+"%20"), text("a"+string(octet)+string(octet)+" "))
	}
	if met != 66 {
		t.Errorf("%d octets stay", met)
	}
}

// TestP141URITexts: neighbours of those that stay, characters of several octets, what is written as an address already.
func TestP141URITexts(t *testing.T) {
	uri().texts(t, [][2]string{
		{"", ""}, {" ", "%20"}, {"a b", "a%20b"}, {"%", "%25"}, {"%20", "%2520"}, {"@[`{", "%40%5B%60%7B"}, {"/:,+*}^|\x7f", "%2F%3A%2C%2B%2A%7D%5E%7C%7F"}, {"\x00\n", "%00%0A"}, {"a=1&b='2'!()", "a%3D1%26b%3D%272%27%21%28%29"},
		{"\u00e9", "%C3%A9"}, {"\u20ac", "%E2%82%AC"}, {"\U0001f600", "%F0%9F%98%80"}, {"na\u00efve", "na%C3%AFve"}, {"\u00aa\u0131", "%C2%AA%C4%B1"}, {"\uff21", "%EF%BC%A1"}, {"\U0010ffff", "%F4%8F%BF%BF"}, {"\ufffd", "%EF%BF%BD"},
	})
}

// TestP141HTML: each of the five, several in a row; all other octets stay.
func TestP141HTML(t *testing.T) {
	five := map[rune]string{'&': "&amp;", '<': "&lt;", '>': "&gt;", '\'': "&#39;", '"': "&quot;"}
	for char := range rune(0x300) {
		want := five[char]
		if want == "" {
			want = string(char)
		}
		html().check(t, as(want), text(string(char)))
		html().check(t, as("a"+want+want+"&lt;"), text("a"+string(char)+string(char)+"<"))
	}
	html().texts(t, [][2]string{
		{"", ""}, {"a", "a"}, {`&<>'"`, "&amp;&lt;&gt;&#39;&quot;"}, {`"'><&`, "&quot;&#39;&gt;&lt;&amp;"}, {"&&", "&amp;&amp;"}, {"<<>>", "&lt;&lt;&gt;&gt;"},
		{"&amp;", "&amp;amp;"}, {"&lt;b&gt;", "&amp;lt;b&amp;gt;"}, {"&#39;", "&amp;#39;"}, {`<a href="x" id='y'>`, "&lt;a href=&quot;x&quot; id=&#39;y&#39;&gt;"},
		{"\u00e9<\u20ac>\U0001f600", "\u00e9&lt;\u20ac&gt;\U0001f600"}, {"a\x00\n;#", "a\x00\n;#"}, {"\u2018\u201c\uff1c", "\u2018\u201c\uff1c"},
	})
}

// TestP141Long: just MaxText octets, and one more, whatever of them a character makes.
func TestP141Long(t *testing.T) {
	uri().edge(t, "a", 1, most-5, 5)
	uri().edge(t, " ", 3, most/3, most%3)
	uri().edge(t, "\u00e9", 6, most/6, most%6)
	uri().edge(t, "\u20ac", 9, most/9, most%9)
	uri().edge(t, "\U0001f600", 12, most/12, most%12)
	html().edge(t, "a", 1, most-5, 5)
	html().edge(t, "\u00e9", 2, most/2, 0)
	html().edge(t, "\U0001f600", 4, most/4, 0)
	html().edge(t, "&", 5, most/5, most%5)
	html().edge(t, "<", 4, most/4, 0)
	html().edge(t, ">", 4, most/4, 0)
	html().edge(t, "'", 5, most/5, most%5)
	html().edge(t, `"`, 6, most/6, most%6)
}

// TestP141First: a text that is none is told ahead of all else, that it is long, or corrupt, too.
func TestP141First(t *testing.T) {
	for _, s := range wrongTexts() {
		for _, c := range textCalls() {
			c.check(t, no(api.ErrText), text(s))
			c.check(t, no(api.ErrText), text("!"+s))
			c.check(t, no(api.ErrText), text(times("<", most)+s))
		}
	}
}

// TestP141Words: whatever text, as the chapter's words say.
func TestP141Words(t *testing.T) {
	d := dice(1411)
	for _, c := range textCalls() {
		met := map[api.Errno]int{}
		for _, s := range someTexts() {
			c.check(t, want(c.name, text(s)), text(s))
		}
		for range 10000 {
			v := d.handed(c)
			want := want(c.name, v)
			c.check(t, want, v)
			met[want.e]++
		}
		if met[api.OK] < 3000 || c.name == "Unbase64" && met[api.ErrCorrupt] < 3000 {
			t.Errorf("%s: too few of some kind: %v", c.name, met)
		}
	}
}
