package utf

import "iter"

// matches hands out the places, in octets, where t stands in s, also one within another. No octet of s is gone back to, so that the time is that of both lengths, whatever they repeat. Octets do: none that begins a character stands within another one.
func matches(s, t string) iter.Seq[int] {
	return func(yield func(int) bool) {
		if t == "" || len(t) > len(s) {
			return
		}
		next := follow(t)
		met := 0
		for i := range len(s) {
			met = next(met, s[i])
			if met == len(t) && !yield(i+1-met) {
				return
			}
		}
	}
}

// follow answers what tells, from how many octets of t stood last in a text and the octet behind them, how many stand there then. t is not empty.
func follow(t string) func(met int, octet byte) int {
	// For each beginning of t: how much of t's beginning it ends with, but for itself.
	ends := make([]int, len(t))
	next := func(met int, octet byte) int {
		for met > 0 && (met == len(t) || t[met] != octet) {
			met = ends[met-1]
		}
		if t[met] == octet {
			met++
		}
		return met
	}
	for i := 1; i < len(t); i++ {
		ends[i] = next(ends[i-1], t[i])
	}
	return next
}
