package reader

import (
	"strings"
	"unicode/utf8"

	"bolter/api"
)

const (
	firstHigh = 0xd800 // the first of the halves that begin a character written as two
	firstLow  = 0xdc00 // the first of those that end one
	lastLow   = 0xdfff
)

// text reads a text, in memory of its own.
func (s *scan) text() string {
	from := s.at
	s.at++
	var out strings.Builder
	for s.peek() != '"' {
		out.WriteRune(s.character())
	}
	s.at++
	if out.Len() > api.MaxText {
		panic(fault{from, api.ErrLong})
	}
	return out.String()
}

// character reads a character of a text, as it stands or as an escape.
func (s *scan) character() rune {
	c := s.peek()
	if c == '\\' {
		return s.escape()
	}
	if c < 0x20 {
		panic(fault{s.at, api.ErrSyntax})
	}
	rest := s.b[s.at:]
	if !utf8.FullRune(rest) {
		panic(fault{len(s.b), api.ErrShort})
	}
	char, size := utf8.DecodeRune(rest)
	// The same character is told of its own three octets too, which are a text.
	if char == utf8.RuneError && size == 1 {
		panic(fault{s.at, api.ErrText})
	}
	s.at += size
	return char
}

func (s *scan) escape() rune {
	from := s.at
	s.at++
	c := s.peek()
	if c == 'u' {
		s.at++
		return s.coded(from)
	}
	which := strings.IndexByte(`"\/bfnrt`, c)
	if which < 0 {
		panic(fault{from, api.ErrSyntax})
	}
	s.at++
	return rune("\"\\/\b\f\n\r\t"[which])
}

// coded reads a character that is told by digits, whose escape begins at from: behind a high half with the low half that must follow.
func (s *scan) coded(from int) rune {
	char := s.hex(4)
	switch {
	case char < firstHigh || char > lastLow:
		return char
	case char >= firstLow:
		panic(fault{from, api.ErrSyntax})
	}
	return 0x10000 + (char-firstHigh)<<10 + (s.low(from) - firstLow)
}

// low reads the low half that must follow a high half whose escape begins at from. What follows is another thing as soon as one octet tells so.
func (s *scan) low(from int) rune {
	must := func(be bool) {
		if !be {
			panic(fault{from, api.ErrSyntax})
		}
	}
	must(s.peek() == '\\')
	s.at++
	must(s.peek() == 'u')
	s.at++
	out := s.hex(1)
	must(out == firstLow>>12)
	out = out<<4 | s.hex(1)
	must(out >= firstLow>>8)
	return out<<8 | s.hex(2)
}

// hex reads so many hexadecimal digits.
func (s *scan) hex(digits int) rune {
	out := 0
	for range digits {
		digit := strings.IndexByte("0123456789abcdefABCDEF", s.peek())
		if digit < 0 {
			panic(fault{s.at, api.ErrSyntax})
		}
		if digit > 15 {
			digit -= 6
		}
		s.at++
		out = out<<4 | digit
	}
	return rune(out)
}
