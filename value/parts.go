package value

import (
	"iter"
	"strings"

	"bolter/api"
)

// mostParts is more than any value has within the document's bound of 2^31 - 1 octets, as each part takes more than 100. A value that stands within itself has no end, but what goes through it has one.
const mostParts = 1 << 31 / 100

// holds tells whether v is of a kind that holds values.
func holds(v api.Value) bool {
	return v.Kind == kindList || v.Kind == kindObject
}

// inside answers the values that v holds; what stands in List of another kind is none.
func inside(v api.Value) []api.Value {
	if holds(v) {
		return v.List
	}
	return nil
}

// parts hands out v and all its parts, each ahead of its own, with how many lists and objects it stands in.
func parts(v api.Value) iter.Seq2[int, api.Value] {
	return func(yield func(int, api.Value) bool) {
		left := [][]api.Value{{v}}
		for met := 0; met < mostParts && len(left) > 0; {
			level := len(left) - 1
			if len(left[level]) == 0 {
				left = left[:level]
				continue
			}
			part := left[level][0]
			left[level] = left[level][1:]
			if !yield(level, part) {
				return
			}
			left = append(left, inside(part))
			met++
		}
	}
}

// deep answers how deep v is, counted up to most.
func deep(v api.Value, most int) int {
	out := 0
	for level, part := range parts(v) {
		if holds(part) {
			out = max(out, level+1)
		}
		if out >= most {
			break
		}
	}
	return out
}

// size answers how many values v is made of, counted up to most.
func size(v api.Value, most int) int {
	out := 0
	for range parts(v) {
		out++
		if out >= most {
			break
		}
	}
	return out
}

// copied answers v in memory of its own, whether it may be or not.
func copied(v api.Value) api.Value {
	return copiedWithin(mostParts, v)
}

// copiedWithin answers v in memory of its own. Of what v's values hold, it leaves out all from the first list on for which there is no room.
func copiedWithin(room int, v api.Value) api.Value {
	out := fresh(v)
	left := [][]api.Value{out.List}
	for len(left) > 0 {
		last := left[len(left)-1]
		left = left[:len(left)-1]
		for i, part := range last {
			room -= len(part.List)
			if room < 0 {
				part.List = nil
			}
			last[i] = fresh(part)
			if len(part.List) > 0 {
				left = append(left, last[i].List)
			}
		}
	}
	return out
}

// fresh answers v in memory of its own, but for the values that it holds.
func fresh(v api.Value) api.Value {
	v.Num.Coef = append([]uint32(nil), v.Num.Coef...)
	v.Text = strings.Clone(v.Text)
	v.List = append([]api.Value(nil), v.List...)
	v.Keys = append([]string(nil), v.Keys...)
	for i, key := range v.Keys {
		v.Keys[i] = strings.Clone(key)
	}
	return v
}
