package enc

import (
	"shredcol/api"
	"shredcol/wire"
)

// Prefix of texts.
func Prefix(l []string) (string, error) {
	if !isCount(len(l)) {
		return "", api.ErrBound
	}
	var b []byte
	ahead := ""
	for _, text := range l {
		if len(text) > api.MaxBytes {
			return "", api.ErrBound
		}
		same := inCommon(ahead, text)
		b = append(b, wire.Uvarint(uint64(same))...)
		b = append(b, wire.Text(text[same:])...)
		ahead = text
	}
	return string(b), nil
}

// inCommon: how many bytes both begin with.
func inCommon(a, b string) int {
	same := 0
	for same < min(len(a), len(b)) && a[same] == b[same] {
		same++
	}
	return same
}

// ReadPrefix reads texts.
func ReadPrefix(s string, n int) ([]string, error) {
	if !isCount(n) {
		return nil, api.ErrBound
	}
	l := make([]string, n)
	ahead := ""
	for i := range l {
		text, used, err := readBehind(ahead, s)
		if err != nil {
			return nil, err
		}
		l[i] = text
		ahead = text
		s = s[used:]
	}
	if s != "" {
		return nil, api.ErrText
	}
	return l, nil
}

// readBehind: the text that s begins with, if that one is ahead of it.
func readBehind(ahead, s string) (text string, used int, err error) {
	same, used, err := wire.ReadUvarint(s)
	if err != nil {
		return "", 0, err
	}
	// Held against the length while it is still without a sign: an int might run over.
	if same > uint64(len(ahead)) {
		return "", 0, api.ErrText
	}
	rest, size, err := wire.ReadText(s[used:])
	if err != nil {
		return "", 0, err
	}
	text = ahead[:same] + rest
	if len(text) > api.MaxBytes || inCommon(ahead, text) != int(same) {
		return "", 0, api.ErrText
	}
	return text, used + size, nil
}

// prefixValues: the way of Best; the values were looked at.
func prefixValues(_ int, l []api.Value) (string, error) {
	texts := make([]string, len(l))
	for i, v := range l {
		texts[i] = v.S
	}
	return Prefix(texts)
}

func readPrefixValues(s string, n int) ([]api.Value, error) {
	texts, err := ReadPrefix(s, n)
	if err != nil {
		return nil, err
	}
	l := make([]api.Value, n)
	for i, text := range texts {
		l[i] = api.Value{Kind: api.Bytes, S: text}
	}
	return l, nil
}
