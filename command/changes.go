package command

import (
	"strings"

	"braid/api"
	"braid/words"
)

// changes reads a commit's changes and the empty line behind them. (A reader
// that failed gives empty lines too, so that this ends.)
func (r *reader) changes() []Change {
	var all []Change
	for line := r.line(); line != ""; line = r.line() {
		all = append(all, r.change(line))
	}
	r.need(len(all) <= api.MaxChanges)
	return all
}

func (r *reader) change(line string) Change {
	fields := strings.Split(line, " ")
	c := Change{Word: fields[0]}
	switch {
	case c.Word == "M" && len(fields) == 4:
		c.Mode = r.mode(fields[1])
		c.Path = r.path(fields[3])
		c.Mark, c.Data = r.content(fields[2])
	case c.Word == "D" && len(fields) == 2:
		c.Path = r.path(fields[1])
	case (c.Word == "C" || c.Word == "R") && len(fields) == 3:
		c.Path = r.path(fields[1])
		c.To = r.path(fields[2])
	default:
		r.need(line == "deleteall")
	}
	return c
}

// content gives a blob's mark, or the data that stands behind the line.
func (r *reader) content(field string) (int, string) {
	if field == "inline" {
		return 0, r.data()
	}
	n, ok := words.Mark(field)
	r.need(ok)
	return n, ""
}

func (r *reader) mode(field string) string {
	r.need(field == "100644" || field == "100755")
	return field
}

func (r *reader) path(field string) string {
	r.need(words.IsPath(field))
	return field
}
