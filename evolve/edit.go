package evolve

import (
	"slices"
	"strconv"
	"strings"

	"shredcol/api"
	"shredcol/schema"
)

// Words with which edits begin.
const (
	addWord    = "add"
	dropWord   = "drop"
	renameWord = "rename"
	moveWord   = "move"
	widenWord  = "widen"
	loosenWord = "loosen"
)

// mostDigits of a number.
const mostDigits = 4

// edit that has the right form.
type edit struct {
	word string
	id   int      // of what is changed: of add, the group
	node api.Node // of add
	name string   // of rename
	to   int      // of move
}

// readEdit, with the next number that a node gets.
func readEdit(line string, next int) (edit, bool) {
	words := strings.Split(line, " ")
	if strings.Contains(line, "\n") || slices.Contains(words, "") || len(words) < 2 {
		return edit{}, false
	}
	id, is := readNumber(words[1])
	if !is {
		return edit{}, false
	}
	e := edit{word: words[0], id: id}
	is = e.readRest(words[2:], next)
	return e, is
}

// readRest: what stands behind the first number.
func (e *edit) readRest(words []string, next int) (is bool) {
	switch e.word {
	case addWord:
		e.node, is = readNode(words, next)
	case dropWord, widenWord, loosenWord:
		is = len(words) == 0
	case renameWord:
		if is = len(words) == 1; is {
			e.name = words[0]
		}
	case moveWord:
		if is = len(words) == 1; is {
			e.to, is = readNumber(words[0])
		}
	}
	return is
}

func readNumber(word string) (int, bool) {
	if len(word) > mostDigits {
		return 0, false
	}
	n, err := strconv.Atoi(word)
	// Written again it is the same one where nothing needless stands ahead.
	return n, err == nil && n >= 0 && strconv.Itoa(n) == word
}

// readNode by the schema that it makes, once its IDs are written into it.
func readNode(words []string, next int) (api.Node, bool) {
	text := withIDs(words, next)
	root, err := schema.Read(text)
	if err != nil || len(root.Sub) != 1 {
		return api.Node{}, false
	}
	// Read takes whatever blanks there are, or none.
	lines, err := schema.Text(root)
	if err != nil || strings.Join(strings.Fields(lines), " ") != text {
		return api.Node{}, false
	}
	return root.Sub[0], true
}

// withIDs from that number on, behind each name: a leaf's has its end with it, a
// group's the word behind it.
func withIDs(words []string, next int) string {
	var out []string
	for _, word := range words {
		name, endsLeaf := strings.CutSuffix(word, ";")
		switch {
		case endsLeaf:
			word = name + " #" + strconv.Itoa(next) + ";"
			next++
		case word == "{":
			word = "#" + strconv.Itoa(next) + " {"
			next++
		}
		out = append(out, word)
	}
	return strings.Join(out, " ")
}
