package texts

import (
	"strings"
	"unicode/utf8"

	"bolter/api"
	"bolter/utf"
)

// sheet is a text on its way: what is written of it, and whether there was no room for something. Nothing is written beyond MaxText octets: all that is to be replaced may come to far more than there is memory for.
type sheet struct {
	done strings.Builder
	full bool
}

// walk is on its way through a text: what it has not come past, and what tells where in that the next place is that is looked for, and how many octets it has (below 0: there is none).
type walk struct {
	rest string
	next func(s string) (at, size int)
}

// rewriting is a walk with a sheet on which it writes what it comes past.
type rewriting struct {
	walk
	*sheet
}

// put writes a text behind all others, if there is room for it.
func (s *sheet) put(text string) {
	s.full = s.full || len(text) > api.MaxText-s.done.Len()
	if !s.full {
		s.done.WriteString(text)
	}
}

// told answers the text, if there was room for all of it.
func (s *sheet) told() (string, api.Errno) {
	if s.full {
		return "", api.ErrLong
	}
	return s.done.String(), api.OK
}

// past comes past the next place, and answers what stands ahead of it; if there is none, all that is left, and false.
func (w *walk) past() (string, bool) {
	at, size := w.next(w.rest)
	if at < 0 {
		return w.rest, false
	}
	part := w.rest[:at]
	w.rest = w.rest[at+size:]
	return part, true
}

// replace writes the text with by for each place, as far as there is room.
func (r *rewriting) replace(by string) {
	for !r.full {
		part, is := r.past()
		r.put(part)
		if !is {
			return
		}
		r.put(by)
	}
}

// placeOf answers what tells where a text stands first; an empty one stands nowhere.
func placeOf(text string) func(s string) (at, size int) {
	return func(s string) (int, int) {
		if text == "" {
			return -1, 0
		}
		return strings.Index(s, text), len(text)
	}
}

// betweenCharacters tells where the second character of s begins.
func betweenCharacters(s string) (at, size int) {
	_, first := utf8.DecodeRuneInString(s)
	if first == len(s) {
		return -1, 0
	}
	return first, 0
}

// cut answers the parts of s between the places that next tells, each in memory of its own; there is one at least.
func cut(s string, next func(s string) (at, size int)) ([]string, api.Errno) {
	on := walk{s, next}
	var out []string
	for {
		part, is := on.past()
		text, e := written(func(out *sheet) { out.put(part) })
		if e != api.OK {
			return nil, e
		}
		out = append(out, text)
		if !is {
			return out, api.OK
		}
	}
}

// written answers what is written, if the texts that are listed are made of characters.
func written(write func(out *sheet), list ...string) (string, api.Errno) {
	if e := check(list...); e != api.OK {
		return "", e
	}
	var out sheet
	write(&out)
	return out.told()
}

// withLetters answers s with the 26 letters from one on in place of those from another one on.
func withLetters(s string, from, to rune) (string, api.Errno) {
	return written(func(out *sheet) {
		out.put(strings.Map(func(char rune) rune {
			if char < from || char >= from+26 {
				return char
			}
			return char - from + to
		}, s))
	}, s)
}

// check answers the error of the first text that has one.
func check(list ...string) api.Errno {
	for _, text := range list {
		if _, e := utf.Check(text); e != api.OK {
			return e
		}
	}
	return api.OK
}
