package table

import (
	"errors"
	"slices"

	"shredcol/api"
	"shredcol/evolve"
	"shredcol/file"
)

// commit what comes, with these texts as files behind those of its newest snapshot.
func (t *Table) commit(next state, texts ...string) error {
	made, err := t.write(next, texts)
	if isFull(err) {
		made, err = t.writeAgain(next, texts)
	}
	if err != nil {
		return t.told(err)
	}
	t.state = made
	return nil
}

// write what comes under names that tell nothing, so that all is there when one step, the
// last one, makes it the table.
func (t *Table) write(next state, texts []string) (state, error) {
	there := t.files()
	var added []stored
	for _, s := range texts {
		f, err := t.keep(there, s)
		if err != nil {
			return state{}, err
		}
		there, added = append(there, f), append(added, f)
	}
	next = next.with(added)
	s, err := next.text()
	if err != nil {
		return state{}, err
	}
	f, err := t.put(s)
	if err != nil {
		return state{}, err
	}
	return next, t.disk.Rename(f.name(), tableName)
}

// writeAgain, where room has been made. If there still is none, nothing of it is left.
func (t *Table) writeAgain(next state, texts []string) (state, error) {
	if _, err := t.sweep(); err != nil {
		return state{}, err
	}
	made, err := t.write(next, texts)
	if isFull(err) {
		if _, cut := t.sweep(); cut != nil {
			return state{}, cut
		}
	}
	return made, err
}

// keep a text that one of these files may have already: each is on the disk once.
func (t *Table) keep(there []stored, s string) (stored, error) {
	for _, f := range there {
		if f.size != len(s) {
			continue
		}
		if got, err := t.read(f); err == nil && got == s {
			return f, nil
		}
	}
	return t.put(s)
}

// put a text on the disk, under a name that no file has: what an earlier change has left
// there is not to be appended to.
func (t *Table) put(s string) (stored, error) {
	names := t.disk.Names()
	number := 0
	for slices.Contains(names, nameOf(number)) {
		number++
	}
	return storedAs(number, s), t.disk.Append(nameOf(number), s)
}

// sweep away what the table does not need, and tell how many files that was.
func (t *Table) sweep() (int, error) {
	needed := []string{tableName}
	for _, f := range t.files() {
		needed = append(needed, f.name())
	}
	n := 0
	for _, name := range t.disk.Names() {
		if slices.Contains(needed, name) {
			continue
		}
		if err := t.disk.Remove(name); err != nil {
			return 0, err
		}
		n++
	}
	return n, nil
}

// told: an error of the disk on its way out. Without power nobody knows which state the
// disk has, so that a change of this one might undo another.
func (t *Table) told(err error) error {
	if errors.Is(err, api.ErrNone) {
		t.lost = true
	}
	return err
}

// isFull: whether the disk has no room for bytes, or for a file.
func isFull(err error) bool {
	return errors.Is(err, api.ErrSpace) || errors.Is(err, api.ErrBound)
}

// read a file, as it was stored.
func (t *Table) read(f stored) (string, error) {
	s, err := t.disk.Read(f.name())
	if err != nil || storedAs(f.number, s) != f {
		return "", api.ErrText
	}
	return s, nil
}

// check that all files are there, and may be carried to the schema of now.
func (t *Table) check() error {
	root := t.Schema()
	for _, f := range t.files() {
		s, err := t.read(f)
		if err != nil {
			return err
		}
		footer, err := file.Open(s)
		if err != nil || !evolve.Same(footer.Root, root) {
			return api.ErrText
		}
	}
	return nil
}
