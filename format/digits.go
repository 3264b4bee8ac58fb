package format

import "strings"

const digits = letters + "0123456789+/" // those of Base64, by what they tell

// toDigits answers the digits of up to three octets, with = for each that tells none of their bits.
func toDigits(octets string) string {
	bits := 0
	for i := range 3 {
		bits <<= 8
		if i < len(octets) {
			bits |= int(octets[i])
		}
	}
	out := ""
	for i := range 4 {
		if i > len(octets) {
			out += "="
			continue
		}
		at := bits >> (18 - 6*i) & 63
		out += digits[at : at+1]
	}
	return out
}

// toOctets answers the octets of up to four digits, without the bits that are left over.
func toOctets(some string) string {
	bits := 0
	for i := range 4 {
		bits <<= 6
		if i < len(some) {
			bits |= strings.IndexByte(digits, some[i])
		}
	}
	octets := []byte{byte(bits >> 16), byte(bits >> 8), byte(bits)}
	return string(octets[:len(some)*6/8])
}
