package script

import (
	"strconv"
	"strings"

	"shredcol/api"
	"shredcol/compact"
	"shredcol/data"
	"shredcol/table"
)

// How a file is written: records of a group, and entries of a page.
const (
	rows = 4
	most = 8
)

// Answers, and what stands in them.
const (
	done    = "ok"
	nothing = "nothing" // no record is told
	between = " "
	in      = " in "
)

// everything is asked for, in place of a predicate.
const everything = "-"

// mostDigits of a number of steps.
const mostDigits = 5

func (p *player) edit(line string) (string, error) { return done, p.table.Edit(line) }

func (p *player) append(text string) (string, error) {
	d, err := data.Read(p.table.Schema(), text)
	if err != nil {
		return "", err
	}
	return done, p.table.Append([]api.Datum{d}, rows, most)
}

func (p *player) scan(where string) (string, error) { return p.records(0, where) }

func (p *player) old(rest string) (string, error) {
	digit, where, _ := strings.Cut(rest, " ")
	snapshot, err := readNumber(digit, 1)
	if err != nil {
		return "", err
	}
	return p.records(snapshot, where)
}

// records of a snapshot, as texts.
func (p *player) records(snapshot int, where string) (string, error) {
	switch where {
	case "": // of a table it would be all records
		return "", api.ErrText
	case everything:
		where = ""
	}
	l, err := p.table.Scan(snapshot, wholeRecords(), where)
	if err != nil {
		return "", err
	}
	if len(l) == 0 {
		return nothing, nil
	}
	root := p.table.Schema()
	var texts []string
	for _, d := range l {
		text, err := data.Text(root, d)
		if err != nil {
			return "", err
		}
		texts = append(texts, text)
	}
	return strings.Join(texts, between), nil
}

// wholeRecords: the projection of the root.
func wholeRecords() []int { return []int{0} }

func (p *player) count() (string, error) {
	if len(p.table.Schema().Sub) == 0 { // a scan would tell that this is no schema
		return counted(0, 0), nil
	}
	files, err := p.table.Files(0)
	if err != nil {
		return "", err
	}
	l, err := p.table.Scan(0, wholeRecords(), "")
	if err != nil {
		return "", err
	}
	return counted(len(l), len(files)), nil
}

func counted(records, files int) string {
	return strconv.Itoa(records) + in + strconv.Itoa(files)
}

func (p *player) compact() (string, error) {
	_, files, err := compact.Compact(p.table, rows, most)
	return done + between + strconv.Itoa(files), err
}

func (p *player) collect() (string, error) {
	_, err := p.table.Collect()
	return done, err
}

func (p *player) cut(digits string) (string, error) {
	steps, err := readNumber(digits, mostDigits)
	if err != nil {
		return "", err
	}
	return done, p.Cut(steps)
}

// open the table anew, with power. The one that was may be lost.
func (p *player) open() (string, error) {
	p.Mend()
	t, err := table.Open(p.Disk)
	if err != nil {
		return "", err
	}
	p.table = t
	return done, nil
}

// readNumber of so many digits at most.
func readNumber(digits string, many int) (int, error) {
	n, err := strconv.Atoi(digits)
	// Written again it is the same one where nothing needless stands ahead.
	if err != nil || n < 0 || len(digits) > many || strconv.Itoa(n) != digits {
		return 0, api.ErrText
	}
	return n, nil
}
