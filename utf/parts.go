package utf

import (
	"iter"
	"unicode/utf8"
)

// noCharacter stands for an octet that begins no character.
const noCharacter = -1

// parts hands out what s falls into, each with its place in octets: its characters, and noCharacter for each octet that begins none.
func parts(s string) iter.Seq2[int, int] {
	return func(yield func(int, int) bool) {
		for at := 0; at < len(s); {
			char, size := utf8.DecodeRuneInString(s[at:])
			part := int(char)
			// The same character is told of its own three octets too, which are a text.
			if char == utf8.RuneError && size == 1 {
				part = noCharacter
			}
			if !yield(at, part) {
				return
			}
			at += size
		}
	}
}

// isCharacter looks at the ends first: a greater number would be cut down to a rune.
func isCharacter(n int) bool {
	return n >= 0 && n <= utf8.MaxRune && utf8.ValidRune(rune(n))
}

// width answers how many octets the first characters of s have, all of them if there are fewer.
func width(s string, characters int) int {
	for at := range parts(s) {
		if characters == 0 {
			return at
		}
		characters--
	}
	return len(s)
}
