package file

import (
	"strings"

	"shredcol/api"
	"shredcol/schema"
	"shredcol/wire"
)

// Spot of a chunk.
type Spot struct{ At, Len int }

// Part of a file: a group.
type Part struct {
	Records int
	Chunks  []Spot
}

// Footer of a file.
type Footer struct {
	Root   api.Node
	Groups []Part
	Len    int
}

// Open a file.
func Open(s string) (Footer, error) {
	text, err := footerOf(s)
	if err != nil {
		return Footer{}, err
	}
	f, err := readFooter(text, len(s)-endSize-len(text))
	if err != nil {
		// Whatever is wrong, also with the schema: the footer is none.
		return Footer{}, api.ErrText
	}
	return f, nil
}

// footerOf a file: its text, whose sum is right.
func footerOf(s string) (string, error) {
	if len(s) > api.MaxData {
		return "", api.ErrBound
	}
	room := len(s) - len(sign) - endSize
	if room < 0 || !strings.HasPrefix(s, sign) || !strings.HasSuffix(s, sign) {
		return "", api.ErrText
	}
	end := len(s) - endSize
	size, err := wire.ReadFixed(s[end:], fixedSize)
	if err != nil {
		return "", err
	}
	sum, err := wire.ReadFixed(s[end+fixedSize:], fixedSize)
	if err != nil {
		return "", err
	}
	// Held against the room while it is still without a sign: an int might run over.
	if size > uint64(room) {
		return "", api.ErrText
	}
	text := s[end-int(size) : end]
	if uint64(wire.Sum(text)) != sum {
		return "", api.ErrSum
	}
	return text, nil
}

// readFooter that begins at this place of its file.
func readFooter(text string, begin int) (Footer, error) {
	f := Footer{Len: len(text)}
	due := uint64(ofSchema) // which of the two entries that must be there comes next
	err := eachEntry(text, func(number uint64, text string) error {
		if number > ofGroups {
			return nil
		}
		if number != due {
			return api.ErrText
		}
		due++
		var err error
		if number == ofSchema {
			f.Root, err = schema.Read(text)
		} else {
			f.Groups, err = readGroups(f.Root, text, begin)
		}
		return err
	})
	if err != nil {
		return Footer{}, err
	}
	if due <= ofGroups {
		return Footer{}, api.ErrText
	}
	return f, nil
}

// eachEntry of a footer is handed to take, in order.
func eachEntry(footer string, take func(number uint64, text string) error) error {
	for footer != "" {
		number, used, err := wire.ReadUvarint(footer)
		if err != nil {
			return err
		}
		text, more, err := wire.ReadText(footer[used:])
		if err != nil {
			return err
		}
		if err := take(number, text); err != nil {
			return err
		}
		footer = footer[used+more:]
	}
	return nil
}

// readGroups, whose chunks lie one behind the other up to end.
func readGroups(root api.Node, text string, end int) ([]Part, error) {
	leaves, err := schema.Leaves(root)
	if err != nil {
		return nil, err
	}
	wrong := false
	number := func() int {
		n, used, err := wire.ReadUvarint(text)
		if err != nil || n > api.MaxData {
			wrong, text = true, ""
			return 0
		}
		text = text[used:]
		return int(n)
	}
	var groups []Part
	at := len(sign)
	for text != "" {
		part := Part{Records: number()}
		wrong = wrong || part.Records == 0
		for range leaves {
			spot := Spot{At: number(), Len: number()}
			wrong = wrong || spot.At != at
			at += spot.Len
			part.Chunks = append(part.Chunks, spot)
		}
		groups = append(groups, part)
	}
	if wrong || at != end {
		return nil, api.ErrText
	}
	return groups, nil
}
