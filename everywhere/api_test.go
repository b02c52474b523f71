// Package everywhere tests what holds for all packages. (It stands beside package api, which stays to the byte.)
package everywhere

import (
	"errors"
	"testing"

	"shredcol/api"
	"shredcol/plain"
)

func TestP5Constants(t *testing.T) {
	for i, c := range [][2]int{
		{api.MaxText, 8000}, {api.MaxDeep, 6}, {api.MaxNodes, 40}, {api.MaxName, 12}, {api.MaxID, 1000}, {api.MaxBytes, 100},
		{api.MaxList, 40}, {api.MaxRecords, 100}, {api.MaxEntries, 20000}, {api.MaxWidth, 32}, {api.MaxData, 200000}, {api.MaxEdits, 60},
		{api.MaxFiles, 40}, {api.MaxQuota, 500000}, {api.MaxSnaps, 4}, {api.MaxLines, 100}, {api.Workers, 16},
		{api.Group, 0}, {api.Bool, 1}, {api.Int, 2}, {api.Long, 3}, {api.Bytes, 4}, {api.Double, 5},
		{api.Required, 1}, {api.Optional, 2}, {api.Repeated, 3},
	} {
		if c[0] != c[1] {
			t.Errorf("constant %d is %d, not %d", i, c[0], c[1])
		}
	}
}

func TestP5Errors(t *testing.T) {
	for i, c := range []struct {
		err  error
		text string
	}{
		{api.ErrText, "text"}, {api.ErrBound, "bound"}, {api.ErrShape, "shape"}, {api.ErrKind, "kind"},
		{api.ErrName, "name"}, {api.ErrNone, "none"}, {api.ErrSum, "sum"}, {api.ErrSpace, "space"},
	} {
		if c.err.Error() != "shredcol: "+c.text {
			t.Errorf("%q, not of %s", c.err, c.text)
		}
		if code, at := plain.Code(c.err); code != i+1 || at != -1 {
			t.Errorf("%v: code %d at %d", c.err, code, at)
		}
		f := &api.Fault{At: 7, Err: c.err}
		if code, at := plain.Code(f); code != i+1 || at != 7 || !errors.Is(f, c.err) || f.Error() != c.err.Error() {
			t.Errorf("%v: as a fault: code %d at %d, %q", c.err, code, at, f)
		}
	}
	if code, at := plain.Code(nil); code != 0 || at != -1 {
		t.Error(code, at)
	}
	if code, at := plain.Code(errors.New("another")); code != -1 || at != -1 {
		t.Error(code, at)
	}
}
