package texts

import (
	"slices"
	"strconv"
	"strings"
	"unicode/utf8"

	"bolter/api"
)

// The words of the chapter, written anew over lists of characters.

// stands tells whether part stands in chars at that place.
func stands(chars []rune, at int, part []rune) bool {
	return at >= 0 && at+len(part) <= len(chars) && slices.Equal(chars[at:at+len(part)], part)
}

// wantCut answers chars cut at each sep, which is not empty, from the beginning on.
func wantCut(chars, sep []rune) []string {
	out := []string{""}
	for at := 0; at < len(chars); {
		if stands(chars, at, sep) {
			out = append(out, "")
			at += len(sep)
			continue
		}
		out[len(out)-1] += string(chars[at])
		at++
	}
	return out
}

func wantSplit(chars, sep []rune) []string {
	if len(chars) == 0 {
		return nil
	}
	if len(sep) > 0 {
		return wantCut(chars, sep)
	}
	var out []string
	for _, char := range chars {
		out = append(out, string(char))
	}
	return out
}

func wantLines(chars []rune) []string {
	out := wantCut(chars, []rune{'\n'})
	if out[len(out)-1] == "" {
		return out[:len(out)-1]
	}
	return out
}

// wantLetters puts other characters in the places of some; both lists are as long.
func wantLetters(chars []rune, some, others string) string {
	out := ""
	for _, char := range chars {
		if at := strings.IndexRune(some, char); at >= 0 {
			char = rune(others[at])
		}
		out += string(char)
	}
	return out
}

func wantTrim(chars []rune) string {
	blank := func(char rune) bool { return char == 0x20 || char == 0x09 || char == 0x0a || char == 0x0d }
	for len(chars) > 0 && blank(chars[0]) {
		chars = chars[1:]
	}
	for len(chars) > 0 && blank(chars[len(chars)-1]) {
		chars = chars[:len(chars)-1]
	}
	return string(chars)
}

func wantReplace(chars, old []rune, by string) string {
	if len(old) == 0 {
		return string(chars)
	}
	return strings.Join(wantCut(chars, old), by)
}

// want answers what a call is to tell.
func want(name string, l ...string) told {
	var chars [][]rune
	for _, s := range l {
		if !utf8.ValidString(s) {
			return no(api.ErrText)
		}
		chars = append(chars, []rune(s))
	}
	out := wantOf(name, l, chars)
	for _, s := range out.texts() {
		if len(s) > api.MaxText {
			return no(api.ErrLong)
		}
	}
	return out
}

func wantOf(name string, l []string, chars [][]rune) told {
	const small, great = "abcdefghijklmnopqrstuvwxyz", "ABCDEFGHIJKLMNOPQRSTUVWXYZ"
	s := chars[0]
	switch name {
	case "Join":
		last := len(l) - 1
		out := ""
		for i, part := range l[:last] {
			if i > 0 {
				out += l[last]
			}
			out += part
		}
		return text(out)
	case "Split":
		return parts(wantSplit(s, chars[1])...)
	case "Lower":
		return text(wantLetters(s, great, small))
	case "Upper":
		return text(wantLetters(s, small, great))
	case "Begins":
		return truth(stands(s, 0, chars[1]))
	case "Ends":
		return truth(stands(s, len(s)-len(chars[1]), chars[1]))
	case "TrimLeft":
		if stands(s, 0, chars[1]) {
			s = s[len(chars[1]):]
		}
		return text(string(s))
	case "TrimRight":
		if stands(s, len(s)-len(chars[1]), chars[1]) {
			s = s[:len(s)-len(chars[1])]
		}
		return text(string(s))
	case "Trim":
		return text(wantTrim(s))
	case "Replace":
		return text(wantReplace(s, chars[1], l[2]))
	case "Lines":
		return parts(wantLines(s)...)
	}
	n, err := strconv.Atoi(strings.TrimPrefix(name, "Repeat by "))
	if err != nil {
		panic(name)
	}
	out := ""
	for range n {
		out += l[0]
	}
	return text(out)
}
