package value

import (
	"slices"

	"bolter/api"
	"bolter/dec"
	"bolter/utf"
)

// checkAlone answers the first error that v has, whatever its parts are.
func checkAlone(v api.Value) api.Errno {
	var texts []string
	switch v.Kind {
	case kindText:
		texts = []string{v.Text}
	case kindObject:
		texts = v.Keys
	}
	switch {
	case v.Kind < kindNull || v.Kind > kindObject:
		return api.ErrKind
	case slices.ContainsFunc(texts, func(s string) bool { _, e := utf.Check(s); return e != api.OK }):
		return api.ErrText
	case slices.ContainsFunc(texts, func(s string) bool { return len(s) > api.MaxText }):
		return api.ErrLong
	case len(texts) > api.MaxItems || len(inside(v)) > api.MaxItems:
		return api.ErrLong
	case !isFit(v):
		return api.ErrState
	}
	return api.OK
}

// isFit tells whether v's number or keys are what its kind asks for, and what its kind does not use is zero.
func isFit(v api.Value) bool {
	fit := true
	switch v.Kind {
	case kindNumber:
		fit = dec.Check(v.Num) == api.OK
		v.Num = api.Dec{}
	case kindText:
		v.Text = ""
	case kindList:
		v.List = nil
	case kindObject:
		fit = len(v.Keys) == len(v.List) && rise(v.Keys)
		v.Keys, v.List = nil, nil
	}
	unused := len(v.Num.Coef) + len(v.Text) + len(v.List) + len(v.Keys)
	return fit && unused == 0 && !v.Num.Neg && v.Num.Exp == 0
}

// rise tells whether each of the keys is above the one ahead of it.
func rise(keys []string) bool {
	for i := 1; i < len(keys); i++ {
		if keys[i-1] >= keys[i] {
			return false
		}
	}
	return true
}
