package format

import (
	"fmt"
	"strconv"
	"strings"
	"unicode/utf8"

	"bolter/api"
	"bolter/printer"
	"bolter/value"
)

// The words of the chapter, written anew: digits as texts of bits, and what stands instead of what by going over a text again and again.

// valueOf answers what a digit of Base64 tells; below 0: it is none.
func valueOf(digit byte) int {
	switch {
	case digit >= 'A' && digit <= 'Z':
		return int(digit - 'A')
	case digit >= 'a' && digit <= 'z':
		return int(digit-'a') + 26
	case digit >= '0' && digit <= '9':
		return int(digit-'0') + 52
	case digit == '+':
		return 62
	case digit == '/':
		return 63
	}
	return -1
}

// digitOf answers the digit that tells n.
func digitOf(n int) string {
	for digit := range byte(128) {
		if valueOf(digit) == n {
			return string(rune(digit))
		}
	}
	panic(n)
}

// ofBits answers the numbers that bits tell, so many each; what is left over is left out.
func ofBits(bits string, wide int) []int {
	var out []int
	for ; len(bits) >= wide; bits = bits[wide:] {
		n, err := strconv.ParseInt(bits[:wide], 2, 0)
		if err != nil {
			panic(err)
		}
		out = append(out, int(n))
	}
	return out
}

func wantBase64(s string) told {
	var bits, out strings.Builder
	for _, octet := range []byte(s) {
		fmt.Fprintf(&bits, "%08b", octet)
	}
	for bits.Len()%6 > 0 {
		bits.WriteString("0")
	}
	for _, n := range ofBits(bits.String(), 6) {
		out.WriteString(digitOf(n))
	}
	for out.Len()%4 > 0 {
		out.WriteString("=")
	}
	return as(out.String())
}

func wantUnbase64(s string) told {
	for strings.HasSuffix(s, "=") {
		s = s[:len(s)-1]
	}
	var bits strings.Builder
	for _, octet := range []byte(s) {
		n := valueOf(octet)
		if n < 0 {
			return no(api.ErrCorrupt)
		}
		fmt.Fprintf(&bits, "%06b", n)
	}
	if len(s)%4 == 1 {
		return no(api.ErrCorrupt)
	}
	var octets []byte
	for _, n := range ofBits(bits.String(), 8) {
		octets = append(octets, byte(n))
	}
	return as(mended(octets))
}

// mended answers octets with ef bf bd instead of each that begins no character.
func mended(octets []byte) string {
	out := ""
	for len(octets) > 0 {
		size := 1
		for ; size <= 4 && size <= len(octets); size++ {
			if utf8.Valid(octets[:size]) {
				break
			}
		}
		if size > 4 || size > len(octets) {
			out += "\xef\xbf\xbd"
			octets = octets[1:]
			continue
		}
		out += string(octets[:size])
		octets = octets[size:]
	}
	return out
}

func wantURI(s string) told {
	var out strings.Builder
	for _, octet := range []byte(s) {
		isLetter := octet >= 'A' && octet <= 'Z' || octet >= 'a' && octet <= 'z'
		if isLetter || octet >= '0' && octet <= '9' || octet == '-' || octet == '_' || octet == '.' || octet == '~' {
			out.WriteByte(octet)
			continue
		}
		fmt.Fprintf(&out, "%%%02X", octet)
	}
	return as(out.String())
}

// replaced answers s with each first text of a pair replaced by the second, pair after pair.
func replaced(s string, pairs ...string) string {
	for i := 0; i < len(pairs); i += 2 {
		s = strings.ReplaceAll(s, pairs[i], pairs[i+1])
	}
	return s
}

func wantHTML(s string) told {
	return as(replaced(s, "&", "&amp;", "<", "&lt;", ">", "&gt;", "'", "&#39;", `"`, "&quot;"))
}

// wantPlain answers a plain text.
func wantPlain(v api.Value) told {
	if v.Kind == 4 {
		return as(v.Text)
	}
	s, e := printer.Compact(v)
	return told{s, e}
}

// wantFields answers what is written of values, with something between, null as that, and texts as a function tells.
func wantFields(l []api.Value, between, null string, quoted func(s string) string) told {
	var out []string
	for _, v := range l {
		switch v.Kind {
		case 0:
			out = append(out, null)
		case 4:
			out = append(out, quoted(v.Text))
		case 5, 6:
			return no(api.ErrType)
		default:
			out = append(out, wantPlain(v).text)
		}
	}
	return as(strings.Join(out, between))
}

func wantRow(v api.Value, tabs bool) told {
	switch {
	case v.Kind != 5:
		return no(api.ErrType)
	case tabs:
		return wantFields(v.List, "\t", "", func(s string) string { return replaced(s, `\`, `\\`, "\n", `\n`, "\r", `\r`, "\t", `\t`) })
	}
	return wantFields(v.List, ",", "", func(s string) string { return `"` + replaced(s, `"`, `""`) + `"` })
}

func wantShell(v api.Value) told {
	l := []api.Value{v}
	if v.Kind == 5 {
		l = v.List
	}
	return wantFields(l, " ", "null", func(s string) string { return "'" + replaced(s, "'", `'\''`) + "'" })
}

// want answers what a call is to tell.
func want(name string, v api.Value) told {
	ofTexts := map[string]func(s string) told{"Base64": wantBase64, "Unbase64": wantUnbase64, "URI": wantURI, "HTML": wantHTML}
	if do := ofTexts[name]; do != nil {
		if !utf8.ValidString(v.Text) {
			return no(api.ErrText)
		}
		return short(do(v.Text))
	}
	if !utf8.ValidString(name) {
		return no(api.ErrText)
	}
	if e := value.Check(v); e != api.OK {
		return no(e)
	}
	return short(wantOfValue(name, v))
}

// short answers what is told, if it is not too long.
func short(a told) told {
	if len(a.text) > api.MaxText {
		return no(api.ErrLong)
	}
	return a
}

func wantOfValue(name string, v api.Value) told {
	ofPlain := func(do func(s string) told) told {
		plain := short(wantPlain(v))
		if plain.e != api.OK {
			return plain
		}
		return do(plain.text)
	}
	switch name {
	case "Row", "Apply csv":
		return wantRow(v, false)
	case "Row by tabs", "Apply tsv":
		return wantRow(v, true)
	case "Shell", "Apply sh":
		return wantShell(v)
	case "Apply text":
		return ofPlain(as)
	case "Apply json":
		s, e := printer.Compact(v)
		return told{s, e}
	case "Apply base64":
		return ofPlain(wantBase64)
	case "Apply base64d":
		return ofPlain(wantUnbase64)
	case "Apply uri":
		return ofPlain(wantURI)
	case "Apply html":
		return ofPlain(wantHTML)
	}
	return no(api.ErrName)
}
