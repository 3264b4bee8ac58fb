package reader

import (
	"encoding/json"
	"regexp"
	"strconv"
	"strings"
	"testing"
	"unicode/utf8"

	"bolter/api"
	"bolter/dec"
)

// judge goes through a text octet by octet, without going back or looking ahead, and stops as soon as it can tell: where the value ends, or the first fault. It says what the chapter says in another way than the program, for the tests to hold one against the other.
type judge struct {
	b    []byte
	at   int    // the place of the octet
	want state  // what is to come
	seen string // the octets of a number, a word, an escape or a character so far
	from int    // where these began
	text int    // where the text began
	key  bool   // whether it is a key
	open []*inner
	verdict
}

// verdict is what a judge says: where the value ends, or the place of a fault and its error. looked is how many octets it took to tell; told, that it did.
type verdict struct {
	told, is bool
	place    int
	e        api.Errno
	looked   int
}

// inner is a list or an object that is open.
type inner struct {
	isObject bool
	from     int
	begun    int            // how many values or keys began
	key      string         // the last key
	sizes    map[string]int // of its values, by key or by place
}

type state int

const (
	wantValue  state = iota // a value
	wantFirst               // a value or the list's end
	wantKey                 // a key
	wantKey1                // a key or the object's end
	wantColon               // a colon
	wantNext                // a comma or the end
	inNumber                // more of it
	inWord                  // more of it
	inText                  // more of it
	inChar                  // more of a character
	inEscape                // more of an escape
	wantNoMore              // no letter or the like
)

// judged answers what is to be said of b from a place on.
func judged(b []byte, at int) verdict {
	if len(b) > 65536 {
		return verdict{told: true, e: api.ErrLong}
	}
	if at < 0 || at > len(b) {
		return verdict{told: true, e: api.ErrRange}
	}
	j := &judge{b: b, at: at}
	for ; j.at < len(b); j.at++ {
		if j.step(b[j.at]); j.told {
			j.looked = j.at + 1
			return j.verdict
		}
	}
	j.finish()
	j.looked = len(b) + 1
	return j.verdict
}

func (j *judge) fault(place int, e api.Errno) {
	j.verdict = verdict{told: true, place: place, e: e}
}

// finish tells what is to be said at b's end.
func (j *judge) finish() {
	switch {
	case j.want == wantValue && len(j.open) == 0:
		j.verdict = verdict{told: true}
		return
	case j.want == inNumber && isNumber(j.seen):
		if j.endNumber(); j.told {
			return
		}
	}
	if j.want == wantNoMore && len(j.open) == 0 {
		j.verdict = verdict{told: true, is: true, place: len(j.b)}
		return
	}
	j.fault(len(j.b), api.ErrShort)
}

func (j *judge) step(c byte) {
	white := c == 0x20 || c == 0x09 || c == 0x0a || c == 0x0d
	switch {
	case j.want == inNumber && begunNumber(j.seen+string(rune(c))):
		j.seen += string(rune(c))
		return
	case j.want == inNumber && isNumber(j.seen):
		if j.endNumber(); j.told {
			return
		}
	case j.want == inNumber:
		j.fault(j.at, api.ErrSyntax)
		return
	}
	if j.want == wantNoMore {
		if strings.IndexByte("abcdefghijklmnopqrstuvwxyzABCDEFGHIJKLMNOPQRSTUVWXYZ0123456789+-._", c) >= 0 {
			j.fault(j.at, api.ErrSyntax)
			return
		}
		if len(j.open) == 0 {
			j.verdict = verdict{told: true, is: true, place: j.at}
			return
		}
		j.want = wantNext
	}
	if white && j.want <= wantNext {
		return
	}
	j.stepIn(c)
}

// stepIn is step where the octet is one of something.
func (j *judge) stepIn(c byte) {
	switch j.want {
	case wantValue, wantFirst:
		j.begin(c)
	case wantKey, wantKey1:
		j.beginKey(c)
	case wantColon:
		j.want = wantValue
		if c != ':' {
			j.fault(j.at, api.ErrSyntax)
		}
	case wantNext:
		j.beginNext(c)
	case inWord:
		j.seen += string(rune(c))
		j.inWord()
	case inText:
		j.inText(c)
	case inChar:
		j.seen += string([]byte{c})
		j.inChar()
	case inEscape:
		j.seen += string([]byte{c})
		j.inEscape(c)
	}
}

func (j *judge) last() *inner {
	return j.open[len(j.open)-1]
}

// begin takes the octet with which a value is to begin.
func (j *judge) begin(c byte) {
	if c == ']' && j.want == wantFirst {
		j.close()
		return
	}
	opens := c == '[' || c == '{'
	switch {
	case strings.IndexByte("[{\"-0123456789nft", c) < 0:
		j.fault(j.at, api.ErrSyntax)
		return
	case opens && len(j.open) == 64:
		j.fault(j.at, api.ErrDepth)
		return
	}
	if len(j.open) > 0 && !j.last().isObject {
		j.last().begun++
		if j.last().begun > 4096 {
			j.fault(j.at, api.ErrCount)
			return
		}
	}
	j.from, j.seen = j.at, string(rune(c))
	switch {
	case opens:
		j.open = append(j.open, &inner{isObject: c == '{', from: j.at, sizes: map[string]int{}})
		j.want = map[byte]state{'[': wantFirst, '{': wantKey1}[c]
	case c == '"':
		j.want, j.text, j.key = inText, j.at, false
	case c >= 'a':
		j.want = inWord
	default:
		j.want = inNumber
	}
}

func (j *judge) beginKey(c byte) {
	switch {
	case c == '}' && j.want == wantKey1:
		j.close()
	case c != '"':
		j.fault(j.at, api.ErrSyntax)
	case j.last().begun == 4096:
		j.fault(j.at, api.ErrCount)
	default:
		j.last().begun++
		j.want, j.text, j.key = inText, j.at, true
	}
}

func (j *judge) beginNext(c byte) {
	switch {
	case c == ',' && j.last().isObject:
		j.want = wantKey
	case c == ',':
		j.want = wantValue
	case c == '}' && j.last().isObject, c == ']' && !j.last().isObject:
		j.close()
	default:
		j.fault(j.at, api.ErrSyntax)
	}
}

// close ends a list or an object.
func (j *judge) close() {
	size := 1
	for _, part := range j.last().sizes {
		size += part
	}
	if size > 16384 {
		j.fault(j.last().from, api.ErrCount)
		return
	}
	j.open = j.open[:len(j.open)-1]
	j.end(size)
}

// end takes a value of a size into what it stands in.
func (j *judge) end(size int) {
	if len(j.open) == 0 {
		j.verdict = verdict{told: true, is: true, place: j.at + 1}
		return
	}
	key := strconv.Itoa(j.last().begun)
	if j.last().isObject {
		key = j.last().key
	}
	j.last().sizes[key] = size
	j.want = wantNext
}

// endNumber takes a number that ended; what may not stand behind it is still to be seen.
func (j *judge) endNumber() {
	if _, e := dec.Parse(j.seen); e != api.OK {
		j.fault(j.from, e)
		return
	}
	j.endApart()
}

// endApart takes a number or a word into what it stands in.
func (j *judge) endApart() {
	if len(j.open) > 0 {
		j.end(1)
	}
	j.want = wantNoMore
}

func (j *judge) inWord() {
	for _, word := range []string{"null", "false", "true"} {
		if j.seen == word {
			j.endApart()
			return
		}
		if strings.HasPrefix(word, j.seen) {
			return
		}
	}
	j.fault(j.at, api.ErrSyntax)
}

func (j *judge) inText(c byte) {
	j.from, j.seen = j.at, string([]byte{c})
	switch {
	case c == '"':
		j.endText()
	case c == '\\':
		j.want = inEscape
	case c < 0x20:
		j.fault(j.at, api.ErrSyntax)
	default:
		j.inChar()
	}
}

func (j *judge) endText() {
	var s string
	if err := json.Unmarshal(j.b[j.text:j.at+1], &s); err != nil {
		panic(err)
	}
	switch {
	case len(s) > 16384:
		j.fault(j.text, api.ErrLong)
	case j.key:
		j.last().key, j.want = s, wantColon
	default:
		j.end(1)
	}
}

func (j *judge) inChar() {
	j.want = inChar
	switch {
	case utf8.ValidString(j.seen):
		j.want = inText
	case !begunCharacter(j.seen):
		j.fault(j.from, api.ErrText)
	}
}

func (j *judge) inEscape(c byte) {
	isDigit := strings.IndexByte("0123456789abcdefABCDEF", c) >= 0
	n := len(j.seen)
	switch {
	case n == 2 && strings.IndexByte(`"\/bfnrt`, c) >= 0:
		j.want = inText
	case n == 2 && c != 'u':
		j.fault(j.from, api.ErrSyntax)
	case n >= 3 && n <= 6 && !isDigit, n >= 9 && !isDigit:
		j.fault(j.at, api.ErrSyntax)
	case n == 6 && lowHalf.MatchString(j.seen), n > 6 && !begunPair(j.seen):
		j.fault(j.from, api.ErrSyntax)
	case n == 6 && !highHalf.MatchString(j.seen), n == 12:
		j.want = inText
	}
}

// The forms of a whole number and of the escapes of halves.
var (
	wholeNumber = regexp.MustCompile(`^-?(0|[1-9][0-9]*)(\.[0-9]+)?([eE][+-]?[0-9]+)?$`)
	highHalf    = regexp.MustCompile(`^\\u[dD][89abAB]..$`)
	lowHalf     = regexp.MustCompile(`^\\u[dD][cdefCDEF]..$`)
)

// begunPair tells whether what s has behind a high half is a low half, or its beginning.
func begunPair(s string) bool {
	const whole = `\udc00`
	return lowHalf.MatchString(s[6:] + whole[len(s)-6:])
}

func isNumber(s string) bool {
	return wholeNumber.MatchString(s)
}

// begunNumber tells whether s is a number, or its beginning.
func begunNumber(s string) bool {
	return isNumber(s) || isNumber(s+"0")
}

// begunCharacter tells whether something behind s would make a character of it.
func begunCharacter(s string) bool {
	if utf8.ValidString(s) || len(s) >= 4 {
		return utf8.ValidString(s)
	}
	for _, more := range []string{"\x80", "\x8f", "\x90", "\x9f", "\xa0", "\xbf"} {
		if begunCharacter(s + more) {
			return true
		}
	}
	return false
}

// checkJudged holds what Next says of b against what the judge says, and the library of the value.
func checkJudged(t *testing.T, b []byte, at int) verdict {
	t.Helper()
	want := judged(b, at)
	v, place, is, e := Next(b, at)
	if place != want.place || is != want.is || e != want.e {
		t.Errorf("Next of %s at %d: %d, %v, error %d, not %d, %v, error %d", show(b), at, place, is, e, want.place, want.is, want.e)
		return want
	}
	wantV := api.Value{}
	if want.is {
		wantV = decoded(t, b[at:want.place])
	}
	if !same(v, wantV) {
		t.Errorf("Next of %s at %d: %s, not %s", show(b), at, show(v), show(wantV))
	}
	return want
}
