package kinds

import (
	"testing"

	"bolter/api"
	"bolter/path"
	"bolter/value"
)

// sure answers what a call tells, which is no error.
func sure(t *testing.T, c call, l ...api.Value) api.Value {
	t.Helper()
	out := c.do(l...)
	if out.e != api.OK {
		t.Errorf("%s of %s: error %d", c.name, showAll(l...), out.e)
	}
	return out.v
}

// TestP124Entries: an object comes back from its entries, and from those in any order; they from it, in theirs.
func TestP124Entries(t *testing.T) {
	d := dice(1241)
	for range 10000 {
		v := d.object(4)
		l := sure(t, entries(), v)
		unentries().check(t, as(v), l)
		unentries().check(t, as(v), sure(t, reverse(), l))
		entries().check(t, as(l), sure(t, unentries(), l))
		if len(l.List) != len(v.Keys) {
			t.Errorf("Entries of %s: %s", show(v), show(l))
		}
	}
	great := keyed(many(api.MaxItems, num(7))...)
	unentries().check(t, as(great), sure(t, entries(), great))
	// A key may be any text, also one that an entry has.
	for _, v := range read(`{"key":"value","value":"key","k":false,"v":null,"name":[]} {"":"","false":false,"null":null,"1":1} {"\u0000":"\u0000","é😀":{"é😀":0}}`) {
		unentries().check(t, as(v), sure(t, entries(), v))
	}
	unentries().check(t, as(object([]string{"a"}, nested(api.MaxDepth-2, num(1)))), sure(t, entries(), object([]string{"a"}, nested(api.MaxDepth-2, num(1)))))
}

// TestP124Keys: an entry tells what its object has at its key; as many as the object is long, of just those that it has.
func TestP124Keys(t *testing.T) {
	d := dice(1242)
	for range 3000 {
		v := d.object(3)
		told := sure(t, keys(), v)
		length().check(t, length().do(v), told)
		for i, entry := range sure(t, entries(), v).List {
			key, _ := value.Get(entry, "key")
			part, _ := value.Get(entry, "value")
			at, _ := path.Index(v, key)
			if !same(key, told.List[i]) || !same(part, at) {
				t.Errorf("Entries of %s: %s", show(v), show(entry))
			}
			has().check(t, is("true"), v, key)
			within().check(t, is("true"), v, object([]string{key.Text}, part))
		}
		for _, key := range someKeys() {
			_, there := value.Get(v, key)
			has().check(t, as(value.Bool(there)), v, text(key))
		}
	}
}

// TestP124Reverse: what is turned round twice is as it was.
func TestP124Reverse(t *testing.T) {
	d := dice(1243)
	for range 5000 {
		for _, v := range []api.Value{d.list(3), d.text(), d.written()} {
			round := sure(t, reverse(), v)
			reverse().check(t, as(v), round)
			length().check(t, length().do(v), round)
		}
	}
	for _, v := range []api.Value{long("aé", api.MaxText/3), list(append(many(api.MaxItems-1, num(1)), num(2))...), list(), text("")} {
		reverse().check(t, as(v), sure(t, reverse(), v))
	}
}

// TestP124Transpose: lists of like lengths are as they were when they are turned twice.
func TestP124Transpose(t *testing.T) {
	d := dice(1244)
	for range 3000 {
		rows, columns := d.below(5)+1, d.below(5)+1
		v := list()
		for range rows {
			row := list()
			for range columns {
				row.List = append(row.List, d.value(2))
			}
			v.List = append(v.List, row)
		}
		turned := sure(t, transpose(), v)
		transpose().check(t, as(v), turned)
		length().check(t, as(num(columns)), turned)
	}
}

// TestP124Texts: a value comes back from its text; a number from its own, too.
func TestP124Texts(t *testing.T) {
	d := dice(1245)
	for range 5000 {
		v, n := d.value(4), d.number()
		if v.Kind != 4 {
			readOf().check(t, as(v), sure(t, textOf(), v))
		}
		numberOf().check(t, as(n), sure(t, textOf(), n))
		readOf().check(t, as(n), sure(t, textOf(), n))
	}
}

// TestP124Flatten: down to depth after depth is down to all of them.
func TestP124Flatten(t *testing.T) {
	d := dice(1246)
	for range 5000 {
		v := d.list(5)
		by := v
		for depth := range 5 {
			flatten(depth).check(t, as(by), v)
			by = sure(t, flatten(1), by)
		}
	}
}
