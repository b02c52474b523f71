package stats

import (
	"math"
	"strings"

	"shredcol/api"
	"shredcol/enc"
)

// May some value stand so?
func May(s Stats, how string, v api.Value) (bool, error) {
	stands, is := Standing(how)
	if !is {
		return false, api.ErrText
	}
	if !enc.IsValue(v) || s.Has && s.kind() != v.Kind {
		return false, api.ErrKind
	}
	if !s.Has {
		return false, nil
	}
	low, high := leastFrom(s.Min), greatestTo(s.Max, v.Kind)
	if enc.Less(high, low) {
		// With no value between them Min and Max are wrong, and can rule out nothing.
		return true, nil
	}
	// If any value between them stands so, one of the ends does, or v itself.
	within := !enc.Less(v, low) && !enc.Less(high, v)
	return stands(low, v) || stands(high, v) || within && stands(v, v), nil
}

// Standing of that name: whether a stands so to b.
func Standing(how string) (stands func(a, b api.Value) bool, is bool) {
	stands, is = standings()[how]
	return stands, is
}

// standings: how one value may stand to another one.
func standings() map[string]func(a, b api.Value) bool {
	return map[string]func(a, b api.Value) bool{
		"<":  enc.Less,
		"<=": func(a, b api.Value) bool { return !enc.Less(b, a) },
		"=":  func(a, b api.Value) bool { return !enc.Less(a, b) && !enc.Less(b, a) },
		"!=": func(a, b api.Value) bool { return enc.Less(a, b) || enc.Less(b, a) },
		">":  func(a, b api.Value) bool { return enc.Less(b, a) },
		">=": func(a, b api.Value) bool { return !enc.Less(a, b) },
	}
}

// leastFrom a bound on: the least value of its kind, as the bound itself may be none.
// If there is none, what is answered is above all values of the kind.
func leastFrom(bound api.Value) api.Value {
	first := firstOf(bound.Kind)
	switch {
	case enc.Less(bound, first):
		return first
	case bound.Kind == api.Bytes:
		return api.Value{Kind: api.Bytes, S: shortFrom(bound.S)}
	}
	return api.Value{Kind: bound.Kind, N: bound.N}
}

// greatestTo a bound: the greatest value of the kind. If there is none, what is
// answered is below all values of the kind.
func greatestTo(bound api.Value, kind int) api.Value {
	last := lastOf(kind)
	switch {
	case enc.Less(last, bound):
		return last
	case bound.Kind == api.Bytes:
		return api.Value{Kind: api.Bytes, S: bound.S[:min(len(bound.S), api.MaxBytes)]}
	}
	return api.Value{Kind: bound.Kind, N: bound.N}
}

// shortFrom s on: the least text of at most MaxBytes bytes; s, if all of them are below it.
func shortFrom(s string) string {
	if len(s) <= api.MaxBytes {
		return s
	}
	// Cut off it would be below s, so its last byte that can be raised is.
	for end := api.MaxBytes; end > 0; end-- {
		if last := s[end-1]; last < math.MaxUint8 {
			return s[:end-1] + string([]byte{last + 1})
		}
	}
	return s
}

// firstOf all values of a kind.
func firstOf(kind int) api.Value {
	v := api.Value{Kind: kind}
	switch kind {
	case api.Int:
		v.N = math.MinInt32
	case api.Long:
		v.N = math.MinInt64
	case api.Double:
		v.N = -1 // the sign bit, and behind it all bits, which fall
	}
	return v
}

// lastOf all values of a kind.
func lastOf(kind int) api.Value {
	v := api.Value{Kind: kind}
	switch kind {
	case api.Bool:
		v.N = 1
	case api.Int:
		v.N = math.MaxInt32
	case api.Long, api.Double:
		v.N = math.MaxInt64
	case api.Bytes:
		v.S = strings.Repeat("\xff", api.MaxBytes)
	}
	return v
}
