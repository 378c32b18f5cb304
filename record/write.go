package record

import (
	"strings"

	"parlour/api"
)

// Write: P11.
func Write(l []api.Note) (string, api.Errno) {
	if err := Check(l); err != api.OK {
		return "", err
	}
	// A text of one part alone is that part itself, which was handed in.
	return strings.Clone(text(l)), api.OK
}

func text(l []api.Note) string { return strings.Join(parts(l), " ") }

// parts are the neighbours between which the blanks stand.
func parts(l []api.Note) []string {
	if len(l) == 0 {
		return nil
	}
	main := l[0]
	p := []string{main.Move}
	if main.Comment != "" {
		p = append(p, "{"+main.Comment+"}")
	}
	for i := 1; i < len(l); i++ {
		p = append(p, "("+text(l[i:i+1])+")")
	}
	return append(p, parts(main.Next)...)
}
