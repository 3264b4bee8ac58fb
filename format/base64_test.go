package format

import (
	"strings"
	"testing"

	"bolter/api"
)

// allDigits are the 64, by what they tell.
const allDigits = "ABCDEFGHIJKLMNOPQRSTUVWXYZabcdefghijklmnopqrstuvwxyz0123456789+/"

// TestP141Base64: texts of few octets, those of RFC 4648 among them, with their = at the end.
func TestP141Base64(t *testing.T) {
	base64().texts(t, [][2]string{
		{"", ""}, {"f", "Zg=="}, {"fo", "Zm8="}, {"foo", "Zm9v"}, {"foob", "Zm9vYg=="}, {"fooba", "Zm9vYmE="}, {"foobar", "Zm9vYmFy"},
		{"ab", "YWI="}, {"\x00", "AA=="}, {"\x00\x00", "AAA="}, {"\x00\x00\x00", "AAAA"}, {"\x7f", "fw=="}, {"~~~", "fn5+"}, {"???", "Pz8/"}, {"a\n", "YQo="}, {"=", "PQ=="},
		{"\u00e9", "w6k="}, {"\u20ac", "4oKs"}, {"\U0001f600", "8J+YgA=="}, {"a\u00e9", "YcOp"}, {"\u00e9\u20ac", "w6nigqw="}, {"\u00ff", "w78="}, {"\ufffd", "77+9"}, {"\U0010ffff", "9I+/vw=="},
	})
}

// TestP141Base64Digits: each of the digits at each place.
func TestP141Base64Digits(t *testing.T) {
	met := [4]map[byte]bool{{}, {}, {}, {}}
	look := func(s string) {
		want := wantBase64(s)
		base64().check(t, want, text(s))
		for i := range want.text {
			met[i%4][want.text[i]] = true
		}
	}
	for first := range rune(128) {
		for second := range rune(128) {
			look(string([]rune{first, second, second}))
		}
	}
	for char := rune(0x80); char <= 0x10ffff; char += 1 + char>>6 {
		look(string(char))
		for low := range rune(16) {
			look(string([]rune{0x60 + low, char}))
			look(string([]rune{'a', 0x60 + low, char}))
		}
	}
	for i, digits := range met {
		for _, digit := range []byte(allDigits) {
			// No octet of a text is above f4, so that two digits stand at no first place.
			if !digits[digit] && !(i == 0 && valueOf(digit) > 0xf4>>2) {
				t.Errorf("the digit %c was not met at place %d", digit, i)
			}
		}
	}
}

// TestP141Base64Long: just MaxText digits, and more; the = count.
func TestP141Base64Long(t *testing.T) {
	for _, n := range []int{most/4*3 - 3, most/4*3 - 2, most/4*3 - 1, most / 4 * 3} {
		got := base64().told(text(times("a", n)))
		if got.e != api.OK || len(got.text) != (n+2)/3*4 || strings.Count(got.text, "=") != (3-n%3)%3 {
			t.Errorf("%d octets: %s", n, got.show())
		}
	}
	base64().check(t, as(times("w6nD", 1)+times("qcOp", 1)), text("\u00e9\u00e9\u00e9"))
	base64().check(t, as(times("4oKs", most/4)), text(times("\u20ac", most/4)))
	base64().check(t, no(api.ErrLong), text(times("\u20ac", most/4)+"a"))
	for _, n := range []int{most/4*3 + 1, most/4*3 + 2, most/4*3 + 3, most - 1, most, most + 1, 1 << 17, 1 << 21} {
		base64().check(t, no(api.ErrLong), text(times("a", n)))
	}
}

// TestP141Unbase64: with all, some or none of the = at the end; bits that are left over are left out, zero or not.
func TestP141Unbase64(t *testing.T) {
	c := unbase64()
	for _, row := range [][2]string{{"", ""}, {"Zg", "f"}, {"Zm8", "fo"}, {"Zm9v", "foo"}, {"Zm9vYg", "foob"}, {"Zm9vYmE", "fooba"}, {"Zm9vYmFy", "foobar"}, {"YWI", "ab"}, {"AA", "\x00"}, {"fn5+", "~~~"}, {"Pz8/", "???"}, {"w6k", "\u00e9"}, {"4oKs", "\u20ac"}, {"8J+YgA", "\U0001f600"}} {
		for n := range 9 {
			c.check(t, as(row[1]), text(row[0]+times("=", n)))
		}
	}
	c.check(t, as(""), text(times("=", 1<<17)))
	for i := range 16 {
		c.check(t, as("a"), text("Y"+allDigits[16+i:17+i]))
		c.check(t, as("aaaa"), text("YWFhY"+allDigits[16+i:17+i]+"=="))
	}
	for i := range 4 {
		c.check(t, as("ab"), text("YW"+allDigits[8+i:9+i]))
		c.check(t, as("aaaab"), text("YWFhYW"+allDigits[8+i:9+i]+"="))
	}
}

// TestP141Unbase64Digits: each of the digits at each place.
func TestP141Unbase64Digits(t *testing.T) {
	for i := range 64 {
		for j := range 64 {
			a, b := allDigits[i:i+1], allDigits[j:j+1]
			for _, s := range []string{a + b, "A" + a + b, "AA" + a + b, a + "A" + b, a + b + "AA", "AAAA" + a + b + "="} {
				unbase64().check(t, wantUnbase64(s), text(s))
			}
		}
	}
}

// TestP141Unbase64Corrupt: one digit alone behind fours, and what is none of the 64.
func TestP141Unbase64Corrupt(t *testing.T) {
	c := unbase64()
	for _, s := range []string{"A", "A=", "A==", "A===", "AAAAA", "AAAAA===", "AAAAAAAAA", "/", times("AAAA", 9) + "A", "=A", "=AAA", "A=A", "AA=A", "AAA=A", "YQ==YQ==", "YWI=\n", "YWI\n", "\nYWI", "YW\nI", "Y\r\nWI=", "YWI= ", " YWI", "YW I=", "YWI=a", "YQ=YQ", "_-AA", "AA-_", "AAA.", "AAA,", "AA\x00A", "AAA\x7f", "AA\u00e9", "\u00e9\u00e9", "\ufffd", "AA\uff21", "AAA\U0001f600"} {
		c.check(t, no(api.ErrCorrupt), text(s))
	}
	for octet := range rune(128) {
		if strings.ContainsRune(allDigits, octet) {
			continue
		}
		for _, s := range []string{"", "A", "AA", "AAA"} {
			c.check(t, no(api.ErrCorrupt), text(s+string(octet)+"AAAA"[len(s):]))
			c.check(t, no(api.ErrCorrupt), text("AAAA"+s+string(octet)+"AAAA"))
		}
	}
	// What has no octets at all can have no answer that is too long.
	c.check(t, no(api.ErrCorrupt), text(times("A", 1<<17)+"A"))
	c.check(t, no(api.ErrCorrupt), text(times("A", 1<<17)+"!"))
	c.check(t, no(api.ErrCorrupt), text("\n"+times("A", 1<<17)))
}

// TestP141Unbase64Mended: octets that make no character, each replaced alone.
func TestP141Unbase64Mended(t *testing.T) {
	const mend = "\ufffd"
	unbase64().texts(t, [][2]string{
		{"/w==", mend}, {"//8=", mend + mend}, {"//79", mend + mend + mend}, {"gICA", mend + mend + mend}, {"Yf9i", "a" + mend + "b"},
		{"ww==", mend}, {"w6k=", "\u00e9"}, {"w2E=", mend + "a"}, {"4oI=", mend + mend}, {"4oJh", mend + mend + "a"}, {"8J+Y", mend + mend + mend}, {"8J+YgA==", "\U0001f600"},
		{"wIA=", mend + mend}, {"7aCA", mend + mend + mend}, {"9JCAgA==", times(mend, 4)}, {"4oLigqw=", mend + mend + "\u20ac"}, {"77+9", mend}, {"w6nD", "\u00e9" + mend},
	})
	for first := range 256 {
		for second := range 256 {
			octets := []byte{byte(first), byte(second), 0x80}
			unbase64().check(t, as(mended(octets)), text(wantBase64(string(octets)).text))
		}
	}
}

// TestP141Unbase64Long: what counts are the octets that are told, mended.
func TestP141Unbase64Long(t *testing.T) {
	c := unbase64()
	as64 := func(s string) api.Value { return text(wantBase64(s).text) }
	for _, s := range []string{times("a", most-1), times("a", most), times("\u00e9", most/2), times("\U0001f600", most/4)} {
		c.check(t, as(s), as64(s))
		c.check(t, as(s), text(wantBase64(s).text+times("=", 1<<15)))
	}
	for _, s := range []string{times("a", most+1), times("a", most+2), times("\u00e9", most/2) + "a", times("\U0001f600", most/4) + "\U0001f600"} {
		c.check(t, no(api.ErrLong), as64(s))
	}
	// Each of these octets is told as three.
	third := most / 3
	c.check(t, as(times("\ufffd", third)), as64(times("\xff", third)))
	c.check(t, as(times("\ufffd", third)+"a"), as64(times("\xff", third)+"a"))
	c.check(t, no(api.ErrLong), as64(times("\xff", third)+"aa"))
	c.check(t, no(api.ErrLong), as64(times("\xff", third+1)))
	c.check(t, no(api.ErrLong), as64("\xff"+times("a", most-2)))
	c.check(t, as("\ufffd"+times("a", most-3)), as64("\xff"+times("a", most-3)))
	for _, n := range []int{1 << 15, 1 << 17, 1 << 21} {
		c.check(t, no(api.ErrLong), text(times("A", n)))
		c.check(t, no(api.ErrLong), text(times("/", n)))
	}
}
