package order

import (
	"cmp"
	"iter"
	"slices"

	"bolter/api"
	"bolter/dec"
)

// ranked is a list with what tells the order of two of its kind: -1, 0 or 1.
type ranked[T any] struct {
	list    []T
	compare func(a, b T) int
}

// rank answers values that may be with their order.
func rank(l []api.Value) ranked[api.Value] {
	return ranked[api.Value]{l, compare}
}

// places answers the places of the list in order, of like ones as they stood.
func (r ranked[T]) places() []int {
	out := make([]int, len(r.list))
	for i := range out {
		out[i] = i
	}
	slices.SortFunc(out, func(i, j int) int {
		return cmp.Or(r.compare(r.list[i], r.list[j]), cmp.Compare(i, j))
	})
	return out
}

// groups hands out the places in order, those of like ones together.
func (r ranked[T]) groups() iter.Seq[[]int] {
	return func(yield func([]int) bool) {
		places := r.places()
		from := 0
		for to := range places {
			if r.compare(r.list[places[from]], r.list[places[to]]) == 0 {
				continue
			}
			if !yield(places[from:to]) {
				return
			}
			from = to
		}
		if from < len(places) {
			yield(places[from:])
		}
	}
}

// best answers the place that is left, when each that goes ahead of the one left so far takes its place. The list is not empty.
func (r ranked[T]) best(ahead func(order int) bool) int {
	out := 0
	for i, one := range r.list {
		if ahead(r.compare(one, r.list[out])) {
			out = i
		}
	}
	return out
}

// at answers what stands at the places of l.
func at[T any](l []T, places ...int) []T {
	out := make([]T, len(places))
	for i, place := range places {
		out[i] = l[place]
	}
	return out
}

// compare answers the order of two values that may be. value.Compare would check all of both each time: one great value would be gone through as often as it is held against another. This goes no farther than to where they differ.
func compare(a, b api.Value) int {
	// What a kind does not use is zero, so it is the same in two of one kind.
	number, _ := dec.Compare(a.Num, b.Num)
	order := cmp.Or(cmp.Compare(a.Kind, b.Kind), number, cmp.Compare(a.Text, b.Text), slices.Compare(a.Keys, b.Keys))
	if order != 0 {
		return order
	}
	return slices.CompareFunc(a.List, b.List, compare)
}
