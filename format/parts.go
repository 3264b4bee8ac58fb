package format

import (
	"iter"
	"slices"
	"strings"

	"bolter/api"
	"bolter/kinds"
	"bolter/utf"
)

const (
	letters    = "ABCDEFGHIJKLMNOPQRSTUVWXYZabcdefghijklmnopqrstuvwxyz"
	unreserved = letters + "0123456789-_.~" // what stays as it is in an address
	hexDigits  = "0123456789ABCDEF"
	names      = "text json base64 base64d uri html csv tsv sh"
)

// swaps are octets, each with what stands instead of it at the same place.
type swaps struct {
	octets string
	texts  []string
}

// of answers what stands instead of an octet; most stay.
func (s swaps) of(octet string) string {
	if at := strings.Index(s.octets, octet); at >= 0 {
		return s.texts[at]
	}
	return octet
}

// pieces hands out what stands instead of each so many octets of s, and of those that are left over.
func pieces(s string, size int, instead func(octets string) string) iter.Seq[string] {
	return func(yield func(string) bool) {
		for i := range (len(s) + size - 1) / size {
			from := i * size
			if !yield(instead(s[from:min(from+size, len(s))])) {
				return
			}
		}
	}
}

// joined answers texts, one behind the other, in memory of its own, if they are not too long. What comes behind too many octets is not asked for: of a great text it may be far more.
func joined(texts iter.Seq[string]) (string, api.Errno) {
	var out strings.Builder
	for text := range texts {
		if len(text) > api.MaxText-out.Len() {
			return "", api.ErrLong
		}
		out.WriteString(text)
	}
	return out.String(), api.OK
}

// alone answers a text in memory of its own, if it is not too long.
func alone(text string) (string, api.Errno) {
	return joined(slices.Values([]string{text}))
}

// rewritten answers s with something instead of each so many octets, if s is made of characters.
func rewritten(s string, size int, instead func(octets string) string) (string, api.Errno) {
	if _, e := utf.Check(s); e != api.OK {
		return "", e
	}
	return joined(pieces(s, size, instead))
}

// ofPlain answers what is made of v's plain text.
func ofPlain(v api.Value, as func(text string) (string, api.Errno)) (string, api.Errno) {
	plain, e := kinds.Text(v)
	if e != api.OK {
		return "", e
	}
	return as(plain.Text)
}
