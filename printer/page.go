package printer

import (
	"iter"
	"strings"

	"bolter/api"
	"bolter/dec"
)

// The kinds of values, as package api numbers them; all others here are null.
const (
	kindFalse = iota + 1
	kindTrue
	kindNumber
	kindText
	kindList
	kindObject
)

// sheet is a text on its way: what is written of it, and how many octets more there is room for.
type sheet struct {
	done strings.Builder
	room int
}

// page is a sheet on which values are written: with so many blanks for each list or object (0: in one line), how many of these are open, and what tells whether a character stands in a text as it is.
type page struct {
	sheet
	step   int
	open   int
	stands func(char rune) bool
}

// fault is what panics where there is no room.
type fault struct {
	e api.Errno
}

// written answers what is written on p; beside a fault nothing.
func written(p page, write func(p *page)) (out string, e api.Errno) {
	defer func() {
		told := recover()
		if f, is := told.(fault); is {
			out, e = "", f.e
		} else if told != nil {
			// No value that may be leads here.
			out, e = "", api.ErrInternal
		}
	}()
	write(&p)
	return p.done.String(), api.OK
}

// put writes octets behind all others; that there is no room is a fault.
func (s *sheet) put(octets string) {
	if len(octets) > s.room {
		panic(fault{api.ErrLong})
	}
	s.done.WriteString(octets)
	s.room -= len(octets)
}

// value writes v, which may be.
func (p *page) value(v api.Value) {
	switch v.Kind {
	case kindFalse:
		p.put("false")
	case kindTrue:
		p.put("true")
	case kindNumber:
		number, _ := dec.Print(v.Num)
		p.put(number)
	case kindText:
		p.text(v.Text)
	case kindList:
		p.holder("[", v, "]")
	case kindObject:
		p.holder("{", v, "}")
	default:
		p.put("null")
	}
}

// holder writes a list or an object: what it holds, between what begins and what ends it.
func (p *page) holder(begin string, v api.Value, end string) {
	p.put(begin)
	p.open++
	comma := ""
	for key, part := range entries(v) {
		p.put(comma)
		comma = ","
		p.line()
		if v.Kind == kindObject {
			p.key(key)
		}
		p.value(part)
	}
	p.open--
	if len(v.List) > 0 {
		p.line()
	}
	p.put(end)
}

func (p *page) key(key string) {
	p.text(key)
	p.put(":")
	if p.step > 0 {
		p.put(" ")
	}
}

// line begins a line, if there is more than one.
func (p *page) line() {
	if p.step > 0 {
		p.put("\n" + strings.Repeat(" ", p.step*p.open))
	}
}

// entries hands out the values of a list or an object with their keys; those of a list have none.
func entries(v api.Value) iter.Seq2[string, api.Value] {
	return func(yield func(string, api.Value) bool) {
		for i, part := range v.List {
			key := ""
			if v.Kind == kindObject {
				key = v.Keys[i]
			}
			if !yield(key, part) {
				return
			}
		}
	}
}
