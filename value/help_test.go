package value

import (
	"cmp"
	"math"
	"math/big"
	"slices"
	"strconv"
	"strings"
	"testing"
	"unicode/utf8"

	"bolter/api"
)

// dice gives numbers that look like chance and are the same in every run.
type dice uint64

func (d *dice) next() int {
	*d = *d*6364136223846793005 + 1442695040888963407
	return int(*d >> 33)
}

// pick answers one of l.
func pick[T any](d *dice, l []T) T {
	return l[d.next()%len(l)]
}

// value gives a value that may be, at most so deep, of few texts and numbers, so that many are the same.
func (d *dice) value(deep int) api.Value {
	kinds := 7
	if deep == 0 {
		kinds = 5
	}
	v := api.Value{Kind: d.next() % kinds}
	switch v.Kind {
	case 3:
		v.Num = pick(d, someNumbers())
	case 4:
		v.Text = pick(d, someTexts())
	case 5:
		for range d.next() % 4 {
			v.List = append(v.List, d.value(deep-1))
		}
	case 6:
		for _, key := range someTexts() {
			if d.next()%4 == 0 {
				v.Keys = append(v.Keys, key)
				v.List = append(v.List, d.value(deep-1))
			}
		}
	}
	return v
}

// someTexts are texts, rising by their octets.
func someTexts() []string {
	return []string{"", "\x00", "A", "a", "a\x00", "aa", "ab", "b", "\x7f", "\u0080", "\u00e9", "\u07ff", "\u0800", "\ufffd", "\uffff", "\U00010000", "\U0001f600"}
}

// someNumbers are numbers, rising.
func someNumbers() []api.Dec {
	return []api.Dec{
		num(true, "1", 1000), num(true, times("9", 300), 0), num(true, "12", 0), num(true, "2", 0), num(true, "15", -1), num(true, "1", -1000),
		{}, num(false, "1", -1000), num(false, "15", -1), num(false, "2", 0), num(false, "21", -1), num(false, "12", 0), num(false, "4294967297", 0),
		num(false, times("9", 300), 0), num(false, "1", 300), num(false, "1", 1000),
	}
}

// num puts a number together, as it is told, whether it may be or not.
func num(neg bool, digits string, exp int) api.Dec {
	left, _ := new(big.Int).SetString(digits, 10)
	out := api.Dec{Neg: neg, Exp: exp}
	for left.Sign() > 0 {
		out.Coef = append(out.Coef, uint32(new(big.Int).And(left, big.NewInt(math.MaxUint32)).Uint64()))
		left.Rsh(left, 32)
	}
	return out
}

// numbersThatMayNotBe are some of each reason.
func numbersThatMayNotBe() []api.Dec {
	return []api.Dec{
		{Neg: true}, {Exp: 1}, {Coef: []uint32{0}}, {Coef: []uint32{5, 0}}, num(false, "10", 0), num(true, "120", 3),
		num(false, "1", 1001), num(false, "1", -1001), num(false, times("7", 301), 0), {Coef: slices.Repeat([]uint32{1}, api.MaxLimbs+1)},
	}
}

func times(s string, n int) string {
	return strings.Repeat(s, n)
}

// These put a value of a kind together, as it is told, whether it may be or not.
func number(n int) api.Value {
	if n == 0 {
		return api.Value{Kind: 3}
	}
	digits := strings.TrimPrefix(strconv.Itoa(n), "-")
	kept := strings.TrimRight(digits, "0")
	return api.Value{Kind: 3, Num: num(n < 0, kept, len(digits)-len(kept))}
}
func text(s string) api.Value             { return api.Value{Kind: 4, Text: s} }
func list(l ...api.Value) api.Value       { return api.Value{Kind: 5, List: l} }
func many(n int, v api.Value) []api.Value { return slices.Repeat([]api.Value{v}, n) }
func object(keys []string, l ...api.Value) api.Value {
	return api.Value{Kind: 6, Keys: keys, List: l}
}

// keys answers so many keys, rising.
func keys(n int) []string {
	out := make([]string, n)
	for i := range out {
		out[i] = strconv.Itoa(1000000 + i)
	}
	return out
}

// nested puts v into so many lists, or objects, or both by turns.
func nested(times int, v api.Value, wrap ...func(api.Value) api.Value) api.Value {
	for i := range times {
		v = wrap[i%len(wrap)](v)
	}
	return v
}

func inList(v api.Value) api.Value   { return list(v) }
func inObject(v api.Value) api.Value { return object([]string{"k"}, v) }
func behind(v api.Value) api.Value   { return list(number(1), v) }
func ahead(v api.Value) api.Value    { return list(v, text("")) }

// wantDeep and wantSize answer what the chapter says, without an end to the counting.
func wantDeep(v api.Value) int {
	if v.Kind != 5 && v.Kind != 6 {
		return 0
	}
	out := 1
	for _, part := range v.List {
		out = max(out, wantDeep(part)+1)
	}
	return out
}

func wantSize(v api.Value) int {
	out := 1
	if v.Kind == 5 || v.Kind == 6 {
		for _, part := range v.List {
			out += wantSize(part)
		}
	}
	return out
}

// wantCheck answers what Check is to say of v.
func wantCheck(v api.Value) api.Errno {
	switch {
	case wantDeep(v) > 64:
		return api.ErrDepth
	case wantSize(v) > 16384:
		return api.ErrCount
	}
	return wantParts(v)
}

func wantParts(v api.Value) api.Errno {
	if e := wantAlone(v); e != api.OK {
		return e
	}
	if v.Kind < 5 {
		return api.OK
	}
	for _, part := range v.List {
		if e := wantParts(part); e != api.OK {
			return e
		}
	}
	return api.OK
}

// wantAlone answers the first error of v itself, in the chapter's order.
func wantAlone(v api.Value) api.Errno {
	var own []string
	if v.Kind == 4 {
		own = append(own, v.Text)
	}
	if v.Kind == 6 {
		own = append(own, v.Keys...)
	}
	noText, long := false, v.Kind >= 5 && len(v.List) > 4096 || v.Kind == 6 && len(v.Keys) > 4096
	for _, s := range own {
		noText = noText || !utf8.ValidString(s)
		long = long || len(s) > 16384
	}
	state := v.Kind != 3 && (v.Num.Neg || len(v.Num.Coef) > 0 || v.Num.Exp != 0) || v.Kind == 3 && !isNumber(v.Num)
	state = state || v.Kind != 4 && v.Text != "" || v.Kind < 5 && len(v.List) > 0 || v.Kind != 6 && len(v.Keys) > 0
	state = state || v.Kind == 6 && (len(v.Keys) != len(v.List) || !slices.IsSorted(v.Keys) || len(slices.Compact(slices.Clone(v.Keys))) < len(v.Keys))
	switch {
	case v.Kind < 0 || v.Kind > 6:
		return api.ErrKind
	case noText:
		return api.ErrText
	case long:
		return api.ErrLong
	case state:
		return api.ErrState
	}
	return api.OK
}

// isNumber tells whether a decimal is one of those of this file that may be.
func isNumber(a api.Dec) bool {
	return !slices.ContainsFunc(numbersThatMayNotBe(), func(b api.Dec) bool { return sameNumber(a, b) })
}

func sameNumber(a, b api.Dec) bool {
	return a.Neg == b.Neg && a.Exp == b.Exp && slices.Equal(a.Coef, b.Coef)
}

// same tells whether two values are the same in each field.
func same(a, b api.Value) bool {
	return a.Kind == b.Kind && a.Text == b.Text && sameNumber(a.Num, b.Num) && slices.Equal(a.Keys, b.Keys) && slices.EqualFunc(a.List, b.List, same)
}

// wantOrder answers what Compare is to say of two values that may be.
func wantOrder(a, b api.Value) int {
	if a.Kind != b.Kind {
		return cmp.Compare(a.Kind, b.Kind)
	}
	switch a.Kind {
	case 3:
		return scaled(a.Num).Cmp(scaled(b.Num))
	case 4:
		return strings.Compare(a.Text, b.Text)
	}
	for i := range min(len(a.Keys), len(b.Keys)) {
		if a.Keys[i] != b.Keys[i] {
			return strings.Compare(a.Keys[i], b.Keys[i])
		}
	}
	if len(a.Keys) != len(b.Keys) {
		return cmp.Compare(len(a.Keys), len(b.Keys))
	}
	for i := range min(len(a.List), len(b.List)) {
		if order := wantOrder(a.List[i], b.List[i]); order != 0 {
			return order
		}
	}
	return cmp.Compare(len(a.List), len(b.List))
}

// scaled answers a number, times ten to the 1000: a whole number.
func scaled(a api.Dec) *big.Int {
	out := new(big.Int)
	for _, limb := range slices.Backward(a.Coef) {
		out.Lsh(out, 32).Or(out, big.NewInt(int64(limb)))
	}
	out.Mul(out, new(big.Int).Exp(big.NewInt(10), big.NewInt(int64(a.Exp+1000)), nil))
	if a.Neg {
		out.Neg(out)
	}
	return out
}

// show answers a value for a person, cut short.
func show(v api.Value) string {
	return showTo(4, v)
}

func showTo(levels int, v api.Value) string {
	out := "kind " + strconv.Itoa(v.Kind) + " " + strconv.Quote(v.Text[:min(len(v.Text), 20)])
	if len(v.Num.Coef) > 0 {
		out += " limb " + strconv.Itoa(int(v.Num.Coef[0])) + " e" + strconv.Itoa(v.Num.Exp)
	}
	for i := range min(len(v.Keys), 5) {
		out += " " + strconv.Quote(v.Keys[i][:min(len(v.Keys[i]), 20)])
	}
	for i := range min(len(v.List), 5, levels*5) {
		out += " (" + showTo(levels-1, v.List[i]) + ")"
	}
	return out
}

// checkValue holds a value that was told and its error against those that should be.
func checkValue(t *testing.T, what string, got api.Value, e api.Errno, want api.Value, wantE api.Errno) {
	t.Helper()
	if !same(got, want) || e != wantE {
		t.Errorf("%s: %s, error %d, not %s, error %d", what, show(got), e, show(want), wantE)
	}
}

// someValues are values that may be, rising.
func someValues() []api.Value {
	out := []api.Value{{}, {Kind: 1}, {Kind: 2}}
	for _, a := range someNumbers() {
		out = append(out, api.Value{Kind: 3, Num: a})
	}
	for _, s := range someTexts() {
		out = append(out, text(s))
	}
	null, one, a := api.Value{}, number(1), text("a")
	return append(out,
		list(), list(null), list(null, null), list(null, null, null), list(null, one), list(null, object(nil)), list(api.Value{Kind: 1}), list(number(-1)), list(one), list(one, list()), list(number(2)), list(a), list(a, null), list(a, a),
		list(list()), list(list(), null), list(list(null)), list(list(null), null), list(object(nil)),
		object(nil), object([]string{""}, null), object([]string{"", "a"}, null, null), object([]string{"", "a"}, null, one), object([]string{"", "a"}, one, null),
		object([]string{"", "b"}, null, null), object([]string{"a"}, null), object([]string{"a"}, one), object([]string{"a"}, list()), object([]string{"a"}, object(nil)),
		object([]string{"a", "b"}, null, null), object([]string{"a", "b", "c"}, null, null, null), object([]string{"a", "c"}, null, null), object([]string{"aa"}, null), object([]string{"b"}, null), object([]string{"\u00e9"}, null),
	)
}
