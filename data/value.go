package data

import (
	"shredcol/api"
	"shredcol/enc"
)

// ValueText: a value as it stands in a record's text. ErrKind: it is none.
func ValueText(v api.Value) (string, error) {
	if !enc.IsValue(v) {
		return "", api.ErrKind
	}
	return string(appendValue(nil, v)), nil
}

// ReadValue of that kind, with which s begins, and how many bytes it has. ErrKind: no
// such kind; *api.Fault with ErrText, as of Read.
func ReadValue(kind int, s string) (v api.Value, used int, err error) {
	if !enc.IsValue(api.Value{Kind: kind}) {
		return api.Value{}, 0, api.ErrKind
	}
	defer func() {
		if thrown := recover(); thrown != nil {
			v, used, err = api.Value{}, 0, &api.Fault{At: thrown.(unreadable).at, Err: api.ErrText}
		}
	}()
	r := &reader{s: s}
	v = r.value(kind)
	return v, r.at, nil
}
