package pieces

import (
	"bytes"
	"strings"
	"testing"

	"bolter/api"
)

// parted answers pieces that are told with a bar between them.
func parted(s string) [][]byte {
	return bytes.Split([]byte(s), []byte("|"))
}

func checkDocs(t *testing.T, l [][]byte, told []api.Value, at int, e api.Errno) {
	t.Helper()
	got, place, f := Docs(l...)
	if !sameList(got, told) || place != at || f != e {
		t.Errorf("Docs of %d pieces %s: %d values %s, %d, error %d\nnot: %d values %s, %d, error %d", len(l), show(l), len(got), show(got), place, f, len(told), show(told), at, e)
	}
}

func TestP82Docs(t *testing.T) {
	checkDocs(t, nil, nil, 0, api.OK)
	checkDocs(t, [][]byte{}, nil, 0, api.OK)
	checkDocs(t, [][]byte{nil}, nil, 0, api.OK)
	checkDocs(t, [][]byte{nil, {}, nil}, nil, 0, api.OK)
	checkDocs(t, [][]byte{nil, []byte("1"), {}, nil, []byte(" 2"), nil}, values("1", "2"), 3, api.OK)
	for _, c := range []struct {
		s    string
		told []api.Value
	}{
		{" ", nil}, {" |\n", nil}, {"1", values("1")}, {"1|", values("1")}, {"|1", values("1")}, {"1 ", values("1")}, {"1|2", values("12")}, {"1| |2", values("1", "2")}, {"1 |2", values("1", "2")}, {"1| 2 |3|4", values("1", "2", "34")},
		{"[1|,2] 3", values("[1,2]", "3")}, {"[|]|[|]", values("[]", "[]")}, {"nu|ll", values("null")}, {"t|r|u|e", values("true")}, {`"a|b"`, values(`"ab"`)}, {`"\ud8|3d\ud|e00"`, values("\"\U0001f600\"")}, {"\"\xf0|\x9f|\x98\x80\"", values("\"\U0001f600\"")}, {`{"a|":|1|}|`, values(`{"a":1}`)}, {"1.|5", values("1.5")}, {"1|e|2", values("100")}, {"-|1", values("-1")}, {`1|"a"|[]|`, values("1", `"a"`, "[]")},
		{times("1", 300) + "|" + times("0", 9), values(times("1", 300) + times("0", 9))}, {"0." + times("0", 990) + "|" + times("0", 9), values("0")},
	} {
		checkDocs(t, parted(c.s), c.told, len(strings.ReplaceAll(c.s, "|", "")), api.OK)
	}
}

// TestP82DocsFaults: the first error is told, at its place, behind the values ahead of it; what stands behind it is not read.
func TestP82DocsFaults(t *testing.T) {
	for _, c := range append(faults(), closings()[:len(closings())-2]...) {
		b := []byte(c.s)
		checkDocs(t, [][]byte{b}, c.ahead(), c.place, c.e)
		checkDocs(t, [][]byte{nil, b, {}}, c.ahead(), c.place, c.e)
	}
	for _, c := range faults() {
		b := []byte(c.s)
		checkDocs(t, [][]byte{[]byte("7 "), b, []byte(" 1 "), nil, []byte("2 "), []byte("x")}, append(values("7"), c.ahead()...), 2+c.place, c.e)
		checkDocs(t, [][]byte{[]byte("[7]\n"), b, make([]byte, api.MaxBytes+1), []byte("2 ")}, append(values("[7]"), c.ahead()...), 4+c.place, c.e)
	}
	for _, c := range []fault{
		{"1| x| 2|,", 1, 2, api.ErrSyntax}, {"1 2 [|3", 2, 6, api.ErrShort}, {"1|x", 0, 1, api.ErrSyntax}, {"1 |+1", 1, 2, api.ErrSyntax}, {"null|1", 0, 4, api.ErrSyntax}, {"0|1", 0, 1, api.ErrSyntax},
		{"2 1e10|01|e", 1, 2, api.ErrExp}, {"1e1001|.", 0, 0, api.ErrExp}, {"1e1001| ", 0, 0, api.ErrExp}, {times("1", 301) + "|" + times("0", 9), 0, 0, api.ErrDigits}, {times("1", 301) + "|.|x", 0, 302, api.ErrSyntax}, {times("1", 301) + "|e", 0, 302, api.ErrShort}, {times("1", 2000) + "|1|,", 0, 0, api.ErrLong},
	} {
		whole := c
		whole.s = strings.ReplaceAll(c.s, "|", "")
		checkDocs(t, parted(c.s), whole.ahead(), c.place, c.e)
	}
}

// TestP82DocsLong: a piece of which too much would be held is told, and the feed goes on without it.
func TestP82DocsLong(t *testing.T) {
	long := []byte(times(" ", api.MaxBytes))
	checkDocs(t, [][]byte{long}, nil, api.MaxBytes, api.OK)
	checkDocs(t, [][]byte{append([]byte(" "), long...)}, nil, 0, api.ErrLong)
	checkDocs(t, [][]byte{append([]byte("1"), long...), nil}, nil, 0, api.ErrLong)
	checkDocs(t, [][]byte{long, []byte("1")}, nil, api.MaxBytes, api.ErrLong)
	checkDocs(t, [][]byte{[]byte("1 2"), long}, values("1", "2"), 3, api.ErrLong)
	checkDocs(t, [][]byte{[]byte("1 2"), long, []byte(" 3 ")}, values("1", "2", "3"), 6, api.ErrLong)
	checkDocs(t, [][]byte{[]byte("1 2"), long, []byte(" x")}, values("1", "2"), 4, api.ErrLong)
	checkDocs(t, [][]byte{[]byte("1 2"), long, []byte(" [")}, values("1", "2"), 5, api.ErrLong)
	part := append([]byte("1"), long[2:]...)
	checkDocs(t, [][]byte{part, []byte("1"), long[2:], []byte("2")}, values("1", "12"), api.MaxBytes+1, api.ErrLong)
	// What is held counts, not what was taken ahead of it.
	checkDocs(t, [][]byte{part, []byte("\n"), []byte("2")}, values("1", "2"), api.MaxBytes+1, api.OK)
}

// TestP82DocsMany: more values than a list may have, and more octets than may be held.
func TestP82DocsMany(t *testing.T) {
	half := []byte(times("1 ", api.MaxBytes/2))
	checkDocs(t, [][]byte{half}, many(api.MaxBytes/2, "1"), api.MaxBytes, api.OK)
	checkDocs(t, [][]byte{half, half[:len(half)-2], half[:2]}, many(api.MaxBytes, "1"), 2*api.MaxBytes, api.OK)
}
