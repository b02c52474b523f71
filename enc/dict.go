package enc

import (
	"slices"

	"shredcol/api"
	"shredcol/bitrun"
	"shredcol/wire"
)

// Dict of values.
func Dict(kind int, l []api.Value) (string, error) {
	if err := check(kind, l); err != nil {
		return "", err
	}
	unlike, places := byFirst(l)
	text, err := Plain(kind, unlike)
	if err != nil {
		return "", err
	}
	runs, err := bitrun.Runs(places, placeWidth(unlike))
	if err != nil {
		return "", err
	}
	return wire.Uvarint(uint64(len(unlike))) + wire.Text(text) + runs, nil
}

// placeWidth: bits of a place among these; the last one is the greatest.
func placeWidth(unlike []api.Value) int { return bitrun.Width(len(unlike) - 1) }

// byFirst: the unlike values, in the order in which they come first, and the place
// of each value among them. Doubles are keys by their bits, so that +0 and -0 are
// unlike, and a NaN is like itself.
func byFirst(l []api.Value) (unlike []api.Value, places []int) {
	known := map[api.Value]int{}
	places = make([]int, len(l))
	for i, v := range l {
		place, seen := known[v]
		if !seen {
			place = len(unlike)
			known[v] = place
			unlike = append(unlike, v)
		}
		places[i] = place
	}
	return unlike, places
}

// ReadDict reads values.
func ReadDict(kind int, s string, n int) ([]api.Value, error) {
	if err := checkCount(kind, n); err != nil {
		return nil, err
	}
	unlike, used, err := readUnlike(kind, s, n)
	if err != nil {
		return nil, err
	}
	places, size, err := bitrun.ReadRuns(s[used:], placeWidth(unlike), n)
	if err != nil {
		return nil, err
	}
	if used+size != len(s) {
		return nil, api.ErrText
	}
	return atPlaces(unlike, places)
}

// readUnlike: the dictionary that s begins with, of at most n values.
func readUnlike(kind int, s string, n int) (unlike []api.Value, used int, err error) {
	many, used, err := wire.ReadUvarint(s)
	if err != nil {
		return nil, 0, err
	}
	// Of more than n at least one never comes.
	if many > uint64(n) {
		return nil, 0, api.ErrText
	}
	// Not by wire.ReadText: what Dict writes may be longer than api.MaxData.
	size, head, err := wire.ReadUvarint(s[used:])
	if err != nil {
		return nil, 0, err
	}
	used += head
	if size > uint64(len(s)-used) {
		return nil, 0, api.ErrText
	}
	end := used + int(size)
	unlike, err = ReadPlain(kind, s[used:end], int(many))
	if err != nil {
		return nil, 0, err
	}
	return unlike, end, nil
}

// atPlaces: the value at each place, if Dict would have found the same dictionary:
// then no two of it are the same, all come, and in this order.
func atPlaces(unlike []api.Value, places []int) ([]api.Value, error) {
	l := make([]api.Value, len(places))
	for i, place := range places {
		if place >= len(unlike) {
			return nil, api.ErrText
		}
		l[i] = unlike[place]
	}
	if found, _ := byFirst(l); !slices.Equal(found, unlike) {
		return nil, api.ErrText
	}
	return l, nil
}
