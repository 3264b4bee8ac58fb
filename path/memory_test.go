package path

import (
	"cmp"
	"slices"
	"strings"
	"sync"
	"testing"
	"unsafe"

	"bolter/api"
	"bolter/value"
)

// piece is a piece of memory.
type piece struct{ from, to uintptr }

func pieceOf[T any](l []T) piece {
	var one T
	from := uintptr(unsafe.Pointer(unsafe.SliceData(l)))
	return piece{from, from + uintptr(cap(l))*unsafe.Sizeof(one)}
}

func pieceOfText(s string) piece {
	from := uintptr(unsafe.Pointer(unsafe.StringData(s)))
	return piece{from, from + uintptr(len(s))}
}

// pieces answers all memory of lists of values.
func pieces(lists ...[]api.Value) []piece {
	var out []piece
	for _, l := range lists {
		out = append(out, pieceOf(l))
		for _, v := range l {
			out = append(out, pieceOf(v.Num.Coef), pieceOfText(v.Text), pieceOf(v.Keys))
			for _, key := range v.Keys {
				out = append(out, pieceOfText(key))
			}
			out = append(out, pieces(v.List)...)
		}
	}
	return slices.DeleteFunc(out, func(p piece) bool { return p.from == p.to })
}

// checkApart holds that no piece of memory of an answer is another one's, nor one of what was handed in.
func checkApart(t *testing.T, what string, answers, handed []piece) {
	t.Helper()
	byPlace := func(a, b piece) int { return cmp.Compare(a.from, b.from) }
	slices.SortFunc(answers, byPlace)
	for i := 1; i < len(answers); i++ {
		if answers[i].from < answers[i-1].to {
			t.Errorf("%s: two parts of answers share memory", what)
			return
		}
	}
	for _, p := range handed {
		// Those of the answers do not overlap, so that the last one that begins ahead of the end of p ends last of these.
		at, _ := slices.BinarySearchFunc(answers, piece{from: p.to}, byPlace)
		if at > 0 && answers[at-1].to > p.from {
			t.Errorf("%s: an answer shares memory with what was handed in", what)
			return
		}
	}
}

// roomy answers l in other memory, with room behind each list, so that what is put behind it would be seen.
func roomy(l []api.Value) []api.Value {
	out := make([]api.Value, 0, len(l)+3)
	for _, v := range l {
		v.Text = strings.Clone(v.Text)
		v.Num.Coef = append(make([]uint32, 0, len(v.Num.Coef)+3), v.Num.Coef...)
		keys := make([]string, 0, len(v.Keys)+3)
		for _, key := range v.Keys {
			keys = append(keys, strings.Clone(key))
		}
		v.Keys = keys
		v.List = roomy(v.List)
		out = append(out, v)
	}
	return out
}

// untouched tells whether l and all in it is as was, and nothing stands in the room behind.
func untouched(l, was []api.Value) bool {
	whole := func(a, b api.Value) bool {
		fit := a.Kind == b.Kind && a.Text == b.Text && a.Num.Neg == b.Num.Neg && a.Num.Exp == b.Num.Exp
		fit = fit && slices.Equal(a.Num.Coef, b.Num.Coef) && slices.Equal(a.Keys, b.Keys) && untouched(a.List, b.List)
		limbs, keys := a.Num.Coef[len(a.Num.Coef):cap(a.Num.Coef)], a.Keys[len(a.Keys):cap(a.Keys)]
		return fit && !slices.ContainsFunc(limbs, func(n uint32) bool { return n != 0 }) && !slices.ContainsFunc(keys, func(s string) bool { return s != "" })
	}
	return slices.EqualFunc(l[:cap(l)], append(slices.Clone(was), make([]api.Value, cap(l)-len(l))...), whole)
}

// spoil writes over all of l.
func spoil(l []api.Value) {
	for _, v := range l {
		spoil(v.List)
		for i := range v.Keys {
			v.Keys[i] = "spoilt"
		}
		for i := range v.Num.Coef {
			v.Num.Coef[i] = 0x5a5a5a5a
		}
	}
	l = l[:cap(l)]
	for i := range l {
		l[i] = api.Value{Kind: 2}
	}
}

// handed is what the calls are given.
type handed struct {
	v, x  api.Value
	paths [][]api.Value
}

// lists answers all of it as lists of values.
func (h handed) lists() [][]api.Value {
	return append([][]api.Value{{h.v, h.x}}, h.paths...)
}

// roomy answers the same in other memory.
func (h handed) roomy() handed {
	both := roomy([]api.Value{h.v, h.x})
	out := handed{both[0], both[1], make([][]api.Value, 0, len(h.paths)+3)}
	for _, path := range h.paths {
		out.paths = append(out.paths, roomy(path))
	}
	return out
}

// answers is all that the calls tell of it, with lists of their own for each answer.
func (h handed) answers() [][]api.Value {
	var out [][]api.Value
	tell := func(v api.Value, e api.Errno) {
		out = append(out, []api.Value{v}, []api.Value{number(int(e))})
	}
	for _, path := range h.paths {
		tell(Get(h.v, path))
		tell(Set(h.v, path, h.x))
		tell(Set(api.Value{}, path, h.x))
		tell(Delete(h.v, path))
		for _, step := range path {
			tell(Index(h.v, step))
			tell(Put(h.v, step, h.x))
			tell(Put(h.x, step, h.v))
			tell(Slice(h.v, step, h.x))
			tell(Slice(h.v, h.x, step))
		}
	}
	tell(Delete(h.v, h.paths...))
	tell(Delete(h.v))
	tell(Set(h.v, nil, h.x))
	tell(Get(h.v, nil))
	tell(Slice(h.v, number(0), api.Value{}))
	for _, call := range []func(v api.Value) ([][]api.Value, api.Errno){All, Leaves} {
		paths, _ := call(h.v)
		out = append(out, paths...)
	}
	return out
}

// someHanded does something with what may be handed in. In some of it values share their memory.
func someHanded(do func(h handed)) {
	d := dice(105)
	shared := list(number(123456789), text("shared"), object([]string{"a", "b"}, text("x"), list(number(5))))
	key := text("a")
	do(handed{list(shared, shared), shared, [][]api.Value{{number(0)}, {number(1), number(2), key}, {number(1), number(2), key}, {sliced(number(0), number(1))}, {sliced(number(0), number(1)), number(0), number(2), key}}})
	do(handed{shared, shared, [][]api.Value{{number(2), key}, {number(2)}, {number(2)}, {number(7)}}})
	do(handed{text("aéb"), text("x"), [][]api.Value{{sliced(number(0), number(2))}, {key}}})
	for range 300 {
		h := handed{d.value(4), d.value(3), nil}
		for range d.below(5) {
			h.paths = append(h.paths, pick(&d, [][]api.Value{d.path(), d.pathIn(h.v), d.pathIn(h.v)}))
		}
		do(h)
	}
}

func (h handed) String() string {
	return showAll(h.v, h.x) + " by " + showPaths(h.paths...)
}

// TestP105Arguments: no call changes what is handed in, nor what stands behind it in its memory, nor the order of paths.
func TestP105Arguments(t *testing.T) {
	someHanded(func(h handed) {
		given := h.roomy()
		given.answers()
		fit := untouched([]api.Value{given.v}, []api.Value{h.v}) && untouched([]api.Value{given.x}, []api.Value{h.x})
		fit = fit && slices.EqualFunc(given.paths, h.paths, untouched)
		for _, path := range given.paths[len(given.paths):cap(given.paths)] {
			fit = fit && path == nil
		}
		if !fit {
			t.Errorf("%s was changed: %s", h, given)
		}
	})
}

// TestP105Apart: an answer has memory of its own, and so has each list in it.
func TestP105Apart(t *testing.T) {
	someHanded(func(h handed) {
		for _, given := range []handed{h, h.roomy()} {
			answers := slices.Concat(given.answers(), given.answers())
			checkApart(t, h.String(), pieces(answers...), pieces(given.lists()...))
		}
	})
}

// TestP105Answers: an answer stays as it is, whatever is done to what was handed in and to all other answers; and it is the same each time.
func TestP105Answers(t *testing.T) {
	someHanded(func(h handed) {
		var want [][]api.Value
		for _, l := range h.roomy().answers() {
			want = append(want, roomy(l))
		}
		given := h.roomy()
		got := given.answers()
		for _, l := range given.lists() {
			spoil(l)
		}
		if !slices.EqualFunc(got, want, samePath) {
			t.Errorf("%s: an answer shares memory with what was handed in", h)
		}
		for i := range got {
			if !samePath(got[i], want[i]) {
				t.Errorf("%s: two answers share memory", h)
			}
			spoil(got[i])
		}
		if !slices.EqualFunc(h.answers(), want, samePath) {
			t.Errorf("%s: something is kept that an answer shares", h)
		}
	})
}

// TestP1Any: values of any kind come to an end; what may not be is told by its error, and beside an error there is nothing.
func TestP1Any(t *testing.T) {
	d := dice(106)
	within := list(api.Value{})
	within.List[0] = within
	for n := range 20000 {
		l := []api.Value{d.value(3), d.step(), d.value(2), d.step()}
		if n%500 == 0 {
			l[d.below(4)] = within
		}
		for range d.below(3) {
			at := d.below(4)
			if !same(l[at], api.Value{}) && value.Deep(l[at]) < 100 {
				l[at] = d.spoiled(l[at])
			}
		}
		v, step, x, other := l[0], l[1], l[2], l[3]
		for what, c := range map[string]struct {
			call  func() (api.Value, api.Errno)
			given []api.Value
		}{
			"Index":  {func() (api.Value, api.Errno) { return Index(v, step) }, []api.Value{v, step}},
			"Get":    {func() (api.Value, api.Errno) { return Get(v, []api.Value{step, other}) }, []api.Value{v, step, other}},
			"Put":    {func() (api.Value, api.Errno) { return Put(v, step, x) }, []api.Value{v, step, x}},
			"Set":    {func() (api.Value, api.Errno) { return Set(v, []api.Value{step, other}, x) }, []api.Value{v, step, other, x}},
			"Delete": {func() (api.Value, api.Errno) { return Delete(v, []api.Value{step, other}, []api.Value{other}) }, []api.Value{v, step, other}},
			"Slice":  {func() (api.Value, api.Errno) { return Slice(v, step, other) }, []api.Value{v, step, other}},
		} {
			got, e := c.call()
			want := check(c.given)
			if want != api.OK && e != want || e != api.OK && !same(got, api.Value{}) || value.Check(got) != api.OK {
				t.Fatalf("%s: error %d, not %d, and %s", what, e, want, show(got))
			}
		}
		all, e := All(v)
		leaves, f := Leaves(v)
		if want := value.Check(v); e != want || f != want || want != api.OK && len(all)+len(leaves) > 0 {
			t.Fatalf("All and Leaves: errors %d and %d, not %d", e, f, want)
		}
	}
}

// TestP1Nil: nil and empty lists are one.
func TestP1Nil(t *testing.T) {
	for _, v := range []api.Value{{}, {Kind: 5}, {Kind: 6}, {Kind: 3}, text("ab")} {
		full := v
		full.List, full.Keys, full.Num.Coef = []api.Value{}, []string{}, []uint32{}
		for _, path := range [][]api.Value{nil, {}} {
			for _, given := range []api.Value{v, full} {
				got, e := Get(given, path)
				checkTold(t, "Get of no steps", got, e, v, api.OK)
				got, e = Set(number(1), path, given)
				checkTold(t, "Set of no steps", got, e, v, api.OK)
				got, e = Delete(given, path)
				checkTold(t, "Delete of no steps", got, e, api.Value{}, api.OK)
				got, e = Delete(given, [][]api.Value{}...)
				checkTold(t, "Delete of no paths", got, e, v, api.OK)
			}
		}
		a, e := Index(v, sliced(number(0), number(9)))
		b, f := Index(full, sliced(number(0), number(9)))
		checkTold(t, "Index of an empty one", b, f, a, e)
		a, e = Put(v, number(0), number(1))
		b, f = Put(full, number(0), number(1))
		checkTold(t, "Put in an empty one", b, f, a, e)
	}
}

// TestP3Together: what is told hangs on nothing that other calls do at the same time.
func TestP3Together(t *testing.T) {
	var l []handed
	someHanded(func(h handed) { l = append(l, h) })
	var all sync.WaitGroup
	for _, h := range l[:40] {
		want := h.answers()
		for range 4 {
			all.Go(func() {
				if !slices.EqualFunc(h.answers(), want, samePath) {
					t.Error("calls at the same time tell another thing")
				}
			})
		}
	}
	all.Wait()
}
