package format

import (
	library "encoding/base64"
	"encoding/csv"
	"fmt"
	page "html"
	"net/url"
	"slices"
	"strings"
	"testing"

	"bolter/api"
)

// eachText does something with texts of many kinds, of which at most so many octets.
func eachText(most int, do func(s string)) {
	for _, s := range someTexts() {
		do(s)
	}
	for char := rune(0); char <= 0x10ffff; char += 1 + char>>8 {
		do(string(char))
		do("a" + string(char))
		do("ab" + string(char) + string(char))
	}
	for _, s := range []string{"a", "'", "\u00e9", "\u20ac", "\U0001f600"} {
		full := times(s, most/len(s))
		do(full)
		do(full[len(s):] + "b")
	}
	d := dice(1441)
	for range 20000 {
		do(d.text(pick(&d, []int{4, 20, 100})))
	}
}

// TestP144ThereAndBack: Unbase64 of Base64 is the text, with its = at the end or without.
func TestP144ThereAndBack(t *testing.T) {
	eachText(most/4*3, func(s string) {
		there, e := Base64(s)
		if e != api.OK {
			t.Errorf("Base64 of %s: error %d", show(text(s)), e)
		}
		unbase64().check(t, as(s), text(there))
		unbase64().check(t, as(s), text(strings.TrimRight(there, "=")))
		if e == api.OK && there != "" {
			apply("base64d").check(t, as(s), text(there))
		}
	})
}

// TestP144Library: the digits are those of the library, which reads them back.
func TestP144Library(t *testing.T) {
	eachText(most/4*3, func(s string) {
		base64().check(t, as(library.StdEncoding.EncodeToString([]byte(s))), text(s))
	})
	d := dice(1442)
	for range 20000 {
		octets := make([]byte, d.below(9))
		for i := range octets {
			octets[i] = byte(d.below(256))
		}
		unbase64().check(t, as(mended(octets)), text(library.StdEncoding.EncodeToString(octets)))
		unbase64().check(t, as(mended(octets)), text(library.RawStdEncoding.EncodeToString(octets)))
	}
}

// TestP141LibraryBack: addresses and pages are read back as the text.
func TestP141LibraryBack(t *testing.T) {
	eachText(most/12, func(s string) {
		for _, back := range []struct {
			c  call
			do func(s string) (string, error)
		}{
			{uri(), url.PathUnescape},
			{uri(), url.QueryUnescape},
			{html(), func(s string) (string, error) { return page.UnescapeString(s), nil }},
		} {
			got := back.c.told(text(s))
			again, err := back.do(got.text)
			if got.e != api.OK || again != s || err != nil || strings.ContainsAny(got.text, "<>'\"") {
				t.Errorf("%s of %s: %s, and back: %s, %v", back.c.name, show(text(s)), got.show(), show(text(again)), err)
			}
		}
	})
}

// fieldsOfTabs reads a line with tabs back.
func fieldsOfTabs(row string) []string {
	out := strings.Split(row, "\t")
	for i, field := range out {
		out[i] = strings.NewReplacer(`\\`, `\`, `\n`, "\n", `\r`, "\r", `\t`, "\t").Replace(field)
	}
	return out
}

// fieldsOfCommas reads a line with commas back, by the library, which takes a return ahead of a newline for none.
func fieldsOfCommas(row string) []string {
	in := csv.NewReader(strings.NewReader(strings.ReplaceAll(row, "\r", "\x01")))
	out, err := in.Read()
	if err != nil {
		return []string{err.Error()}
	}
	for i, field := range out {
		out[i] = strings.ReplaceAll(field, "\x01", "\r")
	}
	if _, err := in.Read(); err == nil {
		return []string{"more than one line"}
	}
	return out
}

// wordsOfShell reads words back as a shell does: within ' all octets count as they are, outside a backslash keeps the next one.
func wordsOfShell(line string) []string {
	out := []string{""}
	within := false
	for i := 0; i < len(line); i++ {
		last := &out[len(out)-1]
		switch octet := line[i]; {
		case octet == '\'':
			within = !within
		case within:
			*last += string(line[i : i+1])
		case octet == '\\' && i+1 < len(line):
			i++
			*last += line[i : i+1]
		case octet == ' ':
			out = append(out, "")
		default:
			return []string{fmt.Sprintf("bare octet %q", octet)}
		}
	}
	return out
}

// TestP142Back: texts in a row or as words of a shell are read back.
func TestP142Back(t *testing.T) {
	d := dice(1443)
	for range 10000 {
		var l []string
		var values []api.Value
		for range 1 + d.below(5) {
			s := d.text(8)
			l, values = append(l, s), append(values, text(s))
		}
		for _, back := range []struct {
			c  call
			do func(line string) []string
		}{{commas(), fieldsOfCommas}, {tabs(), fieldsOfTabs}, {shell(), wordsOfShell}} {
			got := back.c.told(list(values...))
			if again := back.do(got.text); got.e != api.OK || !slices.Equal(again, l) {
				t.Errorf("%s of %q: %s, and back: %q", back.c.name, l, got.show(), again)
			}
		}
	}
}
