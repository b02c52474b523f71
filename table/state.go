package table

import (
	"math"
	"slices"
	"strconv"
	"strings"

	"shredcol/api"
	"shredcol/evolve"
	"shredcol/wire"
)

const (
	tableName = "table" // of the file that has the state
	sign      = "SHT1"  // what it begins with
	sumSize   = 4
)

// state of a table. What it has is not changed any more: what comes is another state.
type state struct {
	edits []string
	snaps [][]stored // the newest one first; there is one at least
}

// stored file of records: the number in its name, and what tells that it is still the same.
type stored struct {
	number, size int
	sum          uint32
}

func firstState() state { return state{snaps: [][]stored{nil}} }

// edited once more.
func (s state) edited(line string) state {
	return state{edits: slices.Concat(s.edits, []string{line}), snaps: s.snaps}
}

// behind: with one snapshot more, of these files; the oldest one may go.
func (s state) behind(newest []stored) state {
	snaps := slices.Concat([][]stored{newest}, s.snaps)
	return state{edits: s.edits, snaps: snaps[:min(len(snaps), api.MaxSnaps)]}
}

// with these files behind those of its newest snapshot.
func (s state) with(added []stored) state {
	newest := slices.Concat(s.snaps[0], added)
	return state{edits: s.edits, snaps: slices.Concat([][]stored{newest}, s.snaps[1:])}
}

func (s state) has(snapshot int) bool { return snapshot >= 0 && snapshot < len(s.snaps) }

// files of all snapshots, each once.
func (s state) files() []stored {
	var out []stored
	for _, f := range slices.Concat(s.snaps...) {
		if !slices.Contains(out, f) {
			out = append(out, f)
		}
	}
	return out
}

func storedAs(number int, s string) stored {
	return stored{number: number, size: len(s), sum: wire.Sum(s)}
}

func (f stored) name() string { return nameOf(f.number) }

func nameOf(number int) string { return "f" + strconv.Itoa(number) }

// text of a state: its sign, the sum of what stands behind the sum, the edits, and the
// files, snapshot by snapshot; how many there are stands ahead of them.
func (s state) text() (string, error) {
	var b strings.Builder
	number := func(n uint64) { b.WriteString(wire.Uvarint(n)) }
	number(uint64(len(s.edits)))
	for _, line := range s.edits {
		b.WriteString(wire.Text(line))
	}
	number(uint64(len(s.snaps)))
	for _, snap := range s.snaps {
		number(uint64(len(snap)))
		for _, f := range snap {
			number(uint64(f.number))
			number(uint64(f.size))
			number(uint64(f.sum))
		}
	}
	sum, err := wire.Fixed(uint64(wire.Sum(b.String())), sumSize)
	if err != nil {
		return "", err
	}
	return sign + sum + b.String(), nil
}

// readState of a text that is one: anything else is ErrText.
func readState(text string) (state, error) {
	rest, is := strings.CutPrefix(text, sign)
	if !is {
		return state{}, api.ErrText
	}
	sum, err := wire.ReadFixed(rest, sumSize)
	if err != nil {
		return state{}, err
	}
	r := reader{rest: rest[sumSize:]}
	if uint64(wire.Sum(r.rest)) != sum {
		return state{}, api.ErrText
	}
	s := r.state()
	_, _, err = evolve.Replay(s.edits)
	if err != nil || r.wrong || r.rest != "" || len(s.snaps) == 0 {
		return state{}, api.ErrText
	}
	return s, nil
}

// reader of a state. Once something is wrong, nothing is left to be read.
type reader struct {
	rest  string
	wrong bool
}

func (r *reader) state() state {
	var s state
	for range r.number(api.MaxEdits) {
		s.edits = append(s.edits, r.line())
	}
	for range r.number(api.MaxSnaps) {
		var snap []stored
		for range r.number(mostFiles) {
			snap = append(snap, r.stored())
		}
		s.snaps = append(s.snaps, snap)
	}
	return s
}

func (r *reader) stored() stored {
	number, size, sum := r.number(api.MaxFiles), r.number(api.MaxData), r.number(math.MaxUint32)
	return stored{number: int(number), size: int(size), sum: uint32(sum)}
}

// number from 0 to most.
func (r *reader) number(most uint64) uint64 {
	n, used, err := wire.ReadUvarint(r.rest)
	if err != nil || n > most {
		r.fail()
		return 0
	}
	r.rest = r.rest[used:]
	return n
}

func (r *reader) line() string {
	line, used, err := wire.ReadText(r.rest)
	if err != nil {
		r.fail()
		return ""
	}
	r.rest = r.rest[used:]
	return line
}

func (r *reader) fail() { r.wrong, r.rest = true, "" }
