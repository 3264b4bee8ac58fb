package dec

import (
	"slices"
	"strconv"
	"strings"

	"bolter/api"
	"bolter/nat"
)

const (
	maxOctets = 2000
	maxPower  = 6  // digits of an exponent in a text
	lowPoint  = -5 // where the point may stand at the lowest and at the highest in a text that has no exponent
	highPoint = 21
)

// Parse answers the decimal that s tells in JSON's form of a number.
func Parse(s string) (api.Dec, api.Errno) {
	n := numeral{left: s}
	switch {
	case !n.read():
		return api.Dec{}, api.ErrToken
	case len(s) > maxOctets:
		return api.Dec{}, api.ErrLong
	case len(n.power) > maxPower:
		return api.Dec{}, api.ErrExp
	}
	return n.value().settle()
}

// Print answers the text of a: plain if its point stands close to its digits, else with an exponent.
func Print(a api.Dec) (string, api.Errno) {
	if e := Check(a); e != api.OK {
		return "", e
	}
	digits, _ := nat.Print(a.Coef)
	point := len(digits) + a.Exp
	text := withPower(digits, point)
	if point >= lowPoint && point <= highPoint {
		text = plain(digits, point)
	}
	if a.Neg {
		text = "-" + text
	}
	return text, api.OK
}

// numeral is a number's text on its way to be a decimal: what was read of it, and what is left to be read.
type numeral struct {
	rough
	fraction string // the digits behind the point
	power    string // the digits of the exponent, without 0 at the beginning
	sinks    bool   // the exponent is below 0
	left     string
}

// read takes a number's text apart, and tells whether it has the form of one.
func (n *numeral) read() bool {
	n.Neg = n.skip('-')
	return n.readWhole() && n.readFraction() && n.readPower() && n.left == ""
}

func (n *numeral) readWhole() bool {
	if n.skip('0') {
		return true
	}
	n.digits = n.take(isDigit)
	return n.digits != ""
}

func (n *numeral) readFraction() bool {
	if !n.skip('.') {
		return true
	}
	n.fraction = n.take(isDigit)
	return n.fraction != ""
}

func (n *numeral) readPower() bool {
	if !n.skip('e', 'E') {
		return true
	}
	n.sinks = strings.HasPrefix(n.left, "-")
	n.skip('+', '-')
	zeros := n.take(func(c byte) bool { return c == '0' })
	n.power = n.take(isDigit)
	return zeros+n.power != ""
}

// skip goes over one octet, if it is one of those.
func (n *numeral) skip(those ...byte) bool {
	if n.left == "" || !slices.Contains(those, n.left[0]) {
		return false
	}
	n.left = n.left[1:]
	return true
}

// take goes over all octets that fit, and hands them out.
func (n *numeral) take(fits func(c byte) bool) string {
	end := 0
	for end < len(n.left) && fits(n.left[end]) {
		end++
	}
	taken := n.left[:end]
	n.left = n.left[end:]
	return taken
}

// value answers what was read, its digits as one whole number.
func (n *numeral) value() rough {
	exp := 0
	for i := range len(n.power) {
		exp = exp*10 + int(n.power[i]-'0')
	}
	if n.sinks {
		exp = -exp
	}
	return rough{api.Dec{Neg: n.Neg, Exp: exp - len(n.fraction)}, n.digits + n.fraction}
}

func isDigit(c byte) bool {
	return c >= '0' && c <= '9'
}

// plain writes digits, of which as many stand ahead of the point as it tells.
func plain(digits string, point int) string {
	switch {
	case point < 1:
		return "0." + strings.Repeat("0", -point) + digits
	case point < len(digits):
		return digits[:point] + "." + digits[point:]
	}
	return digits + strings.Repeat("0", point-len(digits))
}

// withPower writes digits with the point behind the first one, and the exponent that makes up for that.
func withPower(digits string, point int) string {
	out := digits[:1]
	if len(digits) > 1 {
		out += "." + digits[1:]
	}
	if point < 1 {
		return out + "e-" + strconv.Itoa(1-point)
	}
	return out + "e+" + strconv.Itoa(point-1)
}
