package data

import (
	"strconv"
	"strings"

	"shredcol/api"
	"shredcol/schema"
)

// unreadable is thrown by a reader: the place of what cannot stand there.
type unreadable struct{ at int }

// Read a record.
func Read(root api.Node, s string) (d api.Datum, err error) {
	if err = schema.Valid(root); err != nil {
		return api.Datum{}, err
	}
	if len(s) > api.MaxText {
		return api.Datum{}, api.ErrBound
	}
	defer func() {
		if thrown := recover(); thrown != nil {
			d, err = api.Datum{}, &api.Fault{At: thrown.(unreadable).at, Err: api.ErrText}
		}
	}()
	r := &reader{s: s}
	d = r.node(root)
	r.end()
	return d, nil
}

// reader of a text, at a place of it.
type reader struct {
	s  string
	at int
}

func throw(at int) { panic(unreadable{at}) }

// next byte, or 0 at the end: a byte that can stand nowhere, so that the end needs no
// case of its own.
func (r *reader) next() byte {
	if r.at == len(r.s) {
		return 0
	}
	return r.s[r.at]
}

func (r *reader) end() {
	if r.at < len(r.s) {
		throw(r.at)
	}
}

func (r *reader) take(word string) {
	for i := range len(word) {
		if r.next() != word[i] {
			throw(r.at)
		}
		r.at++
	}
}

// takeIf that byte comes next.
func (r *reader) takeIf(c byte) bool {
	is := r.next() == c
	if is {
		r.at++
	}
	return is
}

func (r *reader) node(n api.Node) api.Datum {
	switch {
	case n.Rep == api.Repeated:
		return api.Datum{L: r.list(n)}
	case n.Rep == api.Optional && r.next() == noneWord[0]:
		r.take(noneWord)
		return api.Datum{None: true}
	}
	return r.one(n)
}

func (r *reader) list(n api.Node) []api.Datum {
	var l []api.Datum
	r.take("[")
	for more := r.next() != ']'; more; more = r.takeIf(',') {
		if len(l) == api.MaxList {
			throw(r.at)
		}
		l = append(l, r.one(n))
	}
	r.take("]")
	return l
}

// one as if the node were Required.
func (r *reader) one(n api.Node) api.Datum {
	if n.Kind == api.Group {
		return api.Datum{F: r.group(n)}
	}
	return api.Datum{V: r.value(n.Kind)}
}

func (r *reader) group(n api.Node) []api.Datum {
	var fields []api.Datum
	for i, in := range n.Sub {
		r.take(aheadOf(i))
		r.take(in.Name)
		r.take(":")
		fields = append(fields, r.node(in))
	}
	r.take("}")
	return fields
}

func (r *reader) value(kind int) api.Value {
	v := api.Value{Kind: kind}
	switch kind {
	case api.Bool:
		v.N = r.boolean()
	case api.Int:
		v.N = r.number(32)
	case api.Long:
		v.N = r.number(64)
	case api.Bytes:
		v.S = r.bytes()
	case api.Double:
		r.take("x")
		v.N = int64(r.digits(16))
	}
	return v
}

func (r *reader) boolean() int64 {
	if r.next() == trueWord[0] {
		r.take(trueWord)
		return 1
	}
	r.take(falseWord)
	return 0
}

// number of so many bits: one that would be written so.
func (r *reader) number(bits int) int64 {
	first := r.at
	r.takeIf('-')
	if !isDigit(r.next()) {
		throw(r.at)
	}
	for isDigit(r.next()) {
		r.at++
	}
	text := r.s[first:r.at]
	n, err := strconv.ParseInt(text, 10, bits)
	if err != nil || strconv.FormatInt(n, 10) != text {
		throw(first)
	}
	return n
}

func isDigit(c byte) bool { return c >= '0' && c <= '9' }

func (r *reader) bytes() string {
	var b []byte
	r.take(`"`)
	for r.next() != '"' {
		if len(b) == api.MaxBytes {
			throw(r.at)
		}
		b = append(b, r.byteOfValue())
	}
	r.take(`"`)
	return string(b)
}

func (r *reader) byteOfValue() byte {
	if c := r.next(); standsAsItIs(c) {
		r.at++
		return c
	}
	r.take(`\`)
	first := r.at
	c := byte(r.digits(2))
	if standsAsItIs(c) {
		throw(first)
	}
	return c
}

// digits of 16, so many of them, as a number.
func (r *reader) digits(many int) uint64 {
	var n uint64
	for range many {
		digit := strings.IndexByte(digits16, r.next())
		if digit < 0 {
			throw(r.at)
		}
		n = n<<4 | uint64(digit)
		r.at++
	}
	return n
}
