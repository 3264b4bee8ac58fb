package format

import (
	"iter"
	"slices"
	"strings"

	"bolter/api"
	"bolter/kinds"
)

// Some kinds of values, as package api numbers them.
const (
	kindNull   = 0
	kindText   = 4
	kindList   = 5
	kindObject = 6
)

// line is how values are written one behind the other: what stands between them, instead of null, around a text, and instead of each octet of one.
type line struct {
	between string
	null    string
	around  string
	instead func(octet string) string
}

// written answers the values of l in a line; a list or an object can stand in none.
func (how line) written(l []api.Value) (string, api.Errno) {
	if slices.ContainsFunc(l, holds) {
		return "", api.ErrType
	}
	return joined(how.fields(l))
}

// fields hands out what is written of the values of l, and between them.
func (how line) fields(l []api.Value) iter.Seq[string] {
	return func(yield func(string) bool) {
		for i, v := range l {
			if i > 0 && !yield(how.between) {
				return
			}
			if !yield(how.field(v)) {
				return
			}
		}
	}
}

// field answers what is written of a value that holds none.
func (how line) field(v api.Value) string {
	switch v.Kind {
	case kindNull:
		return how.null
	case kindText:
		parts := slices.Collect(pieces(v.Text, 1, how.instead))
		return how.around + strings.Join(parts, "") + how.around
	}
	// What is left is true, false, or a number, which are never too long.
	text, _ := kinds.Text(v)
	return text.Text
}

func holds(v api.Value) bool {
	return v.Kind == kindList || v.Kind == kindObject
}
