package schema

import (
	"slices"
	"strconv"
	"strings"

	"shredcol/api"
)

// repWords stand in the order of the numbers, from api.Required on.
func repWords() []string { return []string{"required", "optional", "repeated"} }

// kindWords stand in the order of the numbers, from api.Group on.
func kindWords() []string { return []string{"group", "bool", "int", "long", "bytes", "double"} }

// Text of a schema.
func Text(root api.Node) (string, error) {
	if err := Valid(root); err != nil {
		return "", err
	}
	return nodesText(root.Sub, ""), nil
}

// nodesText: the lines of nodes, with these blanks ahead of each.
func nodesText(l []api.Node, blanks string) string {
	var b strings.Builder
	for _, n := range l {
		b.WriteString(blanks + headText(n))
		if n.Kind == api.Group {
			b.WriteString(" {\n" + nodesText(n.Sub, blanks+"  ") + blanks + "}\n")
		} else {
			b.WriteString(";\n")
		}
	}
	return b.String()
}

// headText: what is told of a node by itself.
func headText(n api.Node) string {
	rep, kind := repWords()[n.Rep-api.Required], kindWords()[n.Kind-api.Group]
	return rep + " " + kind + " " + n.Name + " #" + strconv.Itoa(n.ID)
}

// Read a schema.
func Read(s string) (api.Node, error) {
	if len(s) > api.MaxText {
		return api.Node{}, api.ErrBound
	}
	r := reader{s: s}
	root := api.Node{Name: rootName, Rep: api.Required, Kind: api.Group}
	root.Sub = r.nodes(2, "")
	if r.fault != nil {
		return api.Node{}, r.fault
	}
	if err := Valid(root); err != nil {
		return api.Node{}, err
	}
	return root, nil
}

// reader of a text, of which all ahead of at is read. Behind the first fault nothing
// is taken any more, so that it is the one that is told.
type reader struct {
	s     string
	at    int
	fault error
}

// nodes so deep, up to the word with which they end (the text's end is no word).
func (r *reader) nodes(deep int, end string) []api.Node {
	var l []api.Node
	for r.fault == nil {
		if word, _ := r.next(); word == end {
			break
		}
		l = append(l, r.node(deep))
	}
	return l
}

func (r *reader) node(deep int) api.Node {
	var n api.Node
	n.Rep = api.Required + r.takeOne(repWords())
	n.Kind = api.Group + r.takeOne(kindWords())
	n.Name = r.take(isLetters)
	n.ID = r.takeID()
	if n.Kind == api.Group {
		n.Sub = r.takeGroup(deep)
	} else {
		r.takeOne([]string{";"})
	}
	return n
}

// takeGroup: the nodes in a group that stands so deep.
func (r *reader) takeGroup(deep int) []api.Node {
	_, open := r.next()
	r.takeOne([]string{"{"})
	if deep == api.MaxDeep {
		r.fail(open, api.ErrBound)
	}
	l := r.nodes(deep+1, "}")
	r.takeOne([]string{"}"})
	return l
}

func (r *reader) takeID() int {
	// A word that is an ID has too few digits to be no number.
	id, _ := strconv.Atoi(strings.TrimPrefix(r.take(isID), "#"))
	return id
}

// takeOne of these words: which one.
func (r *reader) takeOne(of []string) int {
	var which int
	r.take(func(word string) bool {
		which = slices.Index(of, word)
		return which >= 0
	})
	return which
}

// take the next word, if it can stand there.
func (r *reader) take(can func(word string) bool) string {
	word, at := r.next()
	if !can(word) {
		r.fail(at, api.ErrText)
	}
	if r.fault != nil {
		return ""
	}
	r.at = at + len(word)
	return word
}

func (r *reader) fail(at int, err error) {
	if r.fault == nil {
		r.fault = &api.Fault{At: at, Err: err}
	}
}

// next word, and where it begins; at the text's end an empty one.
func (r *reader) next() (word string, at int) {
	at = r.at
	for at < len(r.s) && isBlank(r.s[at]) {
		at++
	}
	return r.s[at:wordEnd(r.s, at)], at
}

// wordEnd: where the word that begins at this byte ends. A byte with which none
// begins is taken as one, which can stand nowhere.
func wordEnd(s string, at int) int {
	if at == len(s) {
		return at
	}
	goesOn := func(byte) bool { return false }
	switch {
	case isLetter(s[at]):
		goesOn = isLetter
	case s[at] == '#':
		goesOn = isDigit
	}
	end := at + 1
	for end < len(s) && goesOn(s[end]) {
		end++
	}
	return end
}

func isBlank(b byte) bool { return b == ' ' || b == '\n' }

// isLetter of a word: a name with big ones is a word, and then Valid's error.
func isLetter(b byte) bool { return isSmall(b) || b >= 'A' && b <= 'Z' }

func isDigit(b byte) bool { return b >= '0' && b <= '9' }

func isLetters(word string) bool { return word != "" && isLetter(word[0]) }

func isID(word string) bool {
	digits, is := strings.CutPrefix(word, "#")
	return is && len(digits) >= 1 && len(digits) <= 4 && digits[0] != '0'
}
