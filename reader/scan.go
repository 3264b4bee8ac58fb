package reader

import "bolter/api"

// scan is a text that is being read: its octets, the place of the next one, and how many lists and objects are open there.
type scan struct {
	b    []byte
	at   int
	open int
}

// fault is what panics where a text is none.
type fault struct {
	at int
	e  api.Errno
}

// caught does what it is told, and answers the fault that this came to; one without an error, if it came to none.
func caught(do func()) (met fault) {
	defer func() {
		told := recover()
		if f, is := told.(fault); is {
			met = f
		} else if told != nil {
			// No text leads here. If one did, that there is no value would be the wrong answer.
			met = fault{0, api.ErrInternal}
		}
	}()
	do()
	return fault{}
}

// peek answers the next octet; that there is none is a fault.
func (s *scan) peek() byte {
	if s.at == len(s.b) {
		panic(fault{s.at, api.ErrShort})
	}
	return s.b[s.at]
}

// need goes over one octet; that it does not fit is a fault.
func (s *scan) need(fits func(c byte) bool) {
	if !fits(s.peek()) {
		panic(fault{s.at, api.ErrSyntax})
	}
	s.at++
}

// skip goes over one octet, if there is one and it fits.
func (s *scan) skip(fits func(c byte) bool) bool {
	if s.at == len(s.b) || !fits(s.b[s.at]) {
		return false
	}
	s.at++
	return true
}

// space goes over white space.
func (s *scan) space() {
	s.at = Space(s.b, s.at)
}

// one tells of an octet whether it is c.
func one(c byte) func(other byte) bool {
	return func(other byte) bool { return other == c }
}

func isDigit(c byte) bool {
	return c >= '0' && c <= '9'
}

func isLetter(c byte) bool {
	return c >= 'a' && c <= 'z' || c >= 'A' && c <= 'Z'
}
