package script

import (
	"strings"

	"shredcol/api"
	"shredcol/disk"
	"shredcol/table"
)

// player of a script: a disk, and the table on it.
type player struct {
	*disk.Disk
	table *table.Table
}

func newPlayer(quota int) (*player, error) {
	d, err := disk.New(quota)
	if err != nil {
		return nil, err
	}
	t, err := table.Create(d)
	if err != nil {
		return nil, err
	}
	return &player{d, t}, nil
}

// answer to a line. A place has no part in an error's text, so that it is told bare.
func (p *player) answer(line string) string {
	text, err := p.play(line)
	if err != nil {
		return err.Error()
	}
	return text
}

func (p *player) play(line string) (string, error) {
	if do := p.alone()[line]; do != nil {
		return do()
	}
	word, rest, _ := strings.Cut(line, " ")
	if do := p.withRest()[word]; do != nil && rest != "" {
		return do(rest)
	}
	return "", api.ErrText
}

// alone: commands that are a whole line.
func (p *player) alone() map[string]func() (string, error) {
	return map[string]func() (string, error){
		"count":   p.count,
		"compact": p.compact,
		"collect": p.collect,
		"open":    p.open,
	}
}

// withRest: commands that are a line's first word, of what stands behind its first blank.
func (p *player) withRest() map[string]func(rest string) (string, error) {
	return map[string]func(rest string) (string, error){
		"edit":   p.edit,
		"append": p.append,
		"scan":   p.scan,
		"old":    p.old,
		"cut":    p.cut,
	}
}
