package events

import (
	"math"
	"testing"

	"bolter/api"
)

// TestP152Truncate: the events whose path has more steps, without the first ones; leaves and ends.
func TestP152Truncate(t *testing.T) {
	truncate(0).table(t, [][2]string{
		{``, ``},
		{`[[],1]`, ``},
		{`[[0],1] [[0]]`, `[[0],1] [[0]]`},
		{`[[],1] [["a",0],[]] [[],[]] [["a",0]] [["a"]]`, `[["a",0],[]] [["a",0]] [["a"]]`},
	})
	truncate(1).table(t, [][2]string{
		{``, ``},
		{`[[],1] [[0],1] [["a"]]`, ``},
		{`[[0,1],2]`, `[[1],2]`},
		{`[[0,1]]`, `[[1]]`},
		{`[["a","b","c"],{}] [["a","b","c"]] [["a","b"]] [["a"]]`, `[["b","c"],{}] [["b","c"]] [["b"]]`},
		{`[[0],1] [[1,0],2] [[1,-5.5],"x"] [[1,0]] [[1]]`, `[[0],2] [[-5.5],"x"] [[0]]`},
	})
	truncate(2).table(t, [][2]string{
		{`[[0,1],2] [[0,1]] [[],[]]`, ``},
		{`[["a",0,"b"],1] [["a",0,"b"]] [["a",0]] [["a"]]`, `[["b"],1] [["b"]]`},
		{`[["a",0,"b",1e300],null] [[1,2,3]]`, `[["b",1e300],null] [[3]]`},
	})
	// Events are taken one by one: they need not make a value.
	truncate(1).check(t, is(`[[4096],1] [["a"],2]`), read(`[["a",4096],1] [[0,"a"],2]`)...)
}

// TestP152TruncateDeep: of a depth that no path has nothing is left, of one less the last step; whatever the number of steps.
func TestP152TruncateDeep(t *testing.T) {
	for _, n := range []int{1, 2, 64, 65, api.MaxItems} {
		l := []api.Value{list(steps(n, text("a")), num(1)), list(steps(n, num(0)))}
		truncate(n).check(t, as(), l...)
		truncate(n+1).check(t, as(), l...)
		truncate(math.MaxInt).check(t, as(), l...)
		truncate(n-1).check(t, is(`[["a"],1] [[0]]`), l...)
		truncate(0).check(t, as(l...), l...)
	}
}

// TestP152TruncateRange: a depth below 0 is ErrRange, even of no events, behind what is wrong with these.
func TestP152TruncateRange(t *testing.T) {
	for _, depth := range []int{-1, -2, math.MinInt} {
		truncate(depth).check(t, no(api.ErrRange))
		truncate(depth).fails(t, api.ErrRange, `[[0],1]`, `[[],1]`, `[[-1],1] [["a"],1]`)
		truncate(depth).checkNoEvents(t)
	}
}

// TestP152TruncateNone: what may not be is value.Check's error of the first, what is no event ErrType.
func TestP152TruncateNone(t *testing.T) {
	for _, depth := range []int{0, 1, 5, math.MaxInt} {
		truncate(depth).checkNoEvents(t)
	}
}

// TestP152TruncateDice: of any events those are left that should be.
func TestP152TruncateDice(t *testing.T) {
	d := dice(1521)
	for range 5000 {
		l, depth := d.some(), d.below(5)
		truncate(depth).check(t, wantTruncate(l, depth), l...)
	}
}

// TestP152Leaves: how many are leaves, how many ends.
func TestP152Leaves(t *testing.T) {
	leaves().table(t, [][2]string{
		{``, `0 0`},
		{`[[],1]`, `1 0`},
		{`[[0]]`, `0 1`},
		{`[[0],1] [[0]]`, `1 1`},
		{`[["a"],null] [["b"],[]] [["b"]]`, `2 1`},
		{`[[0,0],1] [[0,0]] [[0]] [[],"x"] [[],{}] [["a"],1] [["b"],2] [["b"]]`, `5 3`},
		{`[[0]] [[0,"a"]] [[-1]]`, `0 3`},
		{`[[-1],1] [["a"],1] [[4096]]`, `2 1`},
	})
	n := 3 * api.MaxItems
	leaves().check(t, as(num(n), num(0)), many(n, one(`[[],1]`))...)
	leaves().check(t, as(num(1), num(n)), append(many(n, one(`[[0]]`)), list(steps(api.MaxItems, num(0)), list()))...)
}

// TestP152LeavesNone: what may not be is value.Check's error of the first, what is no event ErrType.
func TestP152LeavesNone(t *testing.T) {
	leaves().checkNoEvents(t)
}

// TestP152LeavesDice: of any events as many are told as there are.
func TestP152LeavesDice(t *testing.T) {
	d := dice(1522)
	for range 5000 {
		l := d.some()
		leaves().check(t, wantLeaves(l), l...)
	}
}

// TestP152NoEvents: the judge of the tests itself, and the calls, of what is nearly an event.
func TestP152NoEvents(t *testing.T) {
	d := dice(1523)
	none := 0
	for range 10000 {
		v := d.noEvent()
		if !isModel(v) {
			none++
		}
		for _, c := range ofEvents() {
			c.check(t, c.want([]api.Value{v}), v)
		}
	}
	for _, s := range noEvents() {
		if isModel(one(s)) {
			t.Errorf("the judge takes %s as an event", s)
		}
	}
	if none < 4000 || none > 9000 {
		t.Error("too few of a kind:", none)
	}
}
