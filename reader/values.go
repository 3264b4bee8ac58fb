package reader

import (
	"maps"
	"slices"
	"strings"

	"bolter/api"
	"bolter/dec"
	"bolter/value"
)

// The kinds of values that are put together here, as package api numbers them.
const (
	kindNumber = iota + 3
	kindText
	kindList
	kindObject
)

// value reads the value that begins here, the nth of the list or object that it stands in; one that stands in none is the first.
func (s *scan) value(nth int) api.Value {
	s.begin(nth)
	switch s.peek() {
	case '[':
		return s.list()
	case '{':
		return s.object()
	case '"':
		return api.Value{Kind: kindText, Text: s.text()}
	case 'n':
		return s.word("null", api.Value{})
	case 'f':
		return s.word("false", value.Bool(false))
	case 't':
		return s.word("true", value.Bool(true))
	}
	return s.number()
}

// begin holds that a value begins here, and that it may.
func (s *scan) begin(nth int) {
	c := s.peek()
	opens := c == '[' || c == '{'
	switch {
	case !opens && !isDigit(c) && strings.IndexByte(`"-nft`, c) < 0:
		panic(fault{s.at, api.ErrSyntax})
	case opens && s.open == api.MaxDepth:
		panic(fault{s.at, api.ErrDepth})
	case nth > api.MaxItems:
		panic(fault{s.at, api.ErrCount})
	}
}

func (s *scan) list() api.Value {
	from := s.at
	out := api.Value{Kind: kindList}
	s.items(']', func(nth int) {
		out.List = append(out.List, s.value(nth))
	})
	return held(from, out)
}

func (s *scan) object() api.Value {
	from := s.at
	var l []api.Value
	last := map[string]int{}
	s.items('}', func(nth int) {
		key := s.key(nth)
		s.space()
		s.need(one(':'))
		s.space()
		l = append(l, s.value(nth))
		last[key] = nth - 1
	})
	out := api.Value{Kind: kindObject, Keys: slices.Sorted(maps.Keys(last))}
	for _, key := range out.Keys {
		out.List = append(out.List, l[last[key]])
	}
	return held(from, out)
}

// key reads the nth key of an object.
func (s *scan) key(nth int) string {
	if s.peek() != '"' {
		panic(fault{s.at, api.ErrSyntax})
	}
	if nth > api.MaxItems {
		panic(fault{s.at, api.ErrCount})
	}
	return s.text()
}

// items goes over a list or an object: the octet that opens it, items with commas between, each read as it is told, and the octet that closes it.
func (s *scan) items(end byte, item func(nth int)) {
	s.at++
	s.open++
	s.space()
	for nth := 1; s.peek() != end; nth++ {
		if nth > 1 {
			s.need(one(','))
			s.space()
		}
		item(nth)
		s.space()
	}
	s.at++
	s.open--
}

// held answers v, which began at a place, if it has no more values in all than one may.
func held(from int, v api.Value) api.Value {
	if value.Size(v) > api.MaxSize {
		panic(fault{from, api.ErrCount})
	}
	return v
}

// word reads the word that stands for v.
func (s *scan) word(w string, v api.Value) api.Value {
	for i := range len(w) {
		s.need(one(w[i]))
	}
	s.apart()
	return v
}

func (s *scan) number() api.Value {
	from := s.at
	s.skip(one('-'))
	if !s.skip(one('0')) {
		s.digits()
	}
	if s.skip(one('.')) {
		s.digits()
	}
	if s.skip(func(c byte) bool { return c == 'e' || c == 'E' }) {
		s.skip(func(c byte) bool { return c == '+' || c == '-' })
		s.digits()
	}
	num, e := dec.Parse(string(s.b[from:s.at]))
	if e != api.OK {
		panic(fault{from, e})
	}
	s.apart()
	return api.Value{Kind: kindNumber, Num: num}
}

// digits goes over one digit, and all that follow it.
func (s *scan) digits() {
	s.need(isDigit)
	for s.skip(isDigit) {
	}
}

// apart holds that nothing stands here that would go on with the number or the word ahead of it.
func (s *scan) apart() {
	if s.at == len(s.b) {
		return
	}
	c := s.b[s.at]
	if isDigit(c) || isLetter(c) || strings.IndexByte("+-._", c) >= 0 {
		panic(fault{s.at, api.ErrSyntax})
	}
}
