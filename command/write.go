package command

import (
	"strconv"
	"strings"
)

// Write writes commands as a stream, in the form that Read takes apart.
func Write(commands []Command) string {
	w := &writer{}
	for _, c := range commands {
		if known, ok := find(c.Word); ok {
			known.write(w, c)
		}
	}
	w.line("done")
	return w.text.String()
}

// writer is a stream that is being written.
type writer struct {
	text strings.Builder
}

func (w *writer) line(text string) {
	w.text.WriteString(text + "\n")
}

func (w *writer) mark(n int) {
	w.line("mark " + markText(n))
}

func (w *writer) data(data string) {
	w.line("data " + strconv.Itoa(len(data)))
	w.line(data)
}

func (w *writer) which(head string, which Which) {
	if which.Mark > 0 {
		w.line(head + markText(which.Mark))
	} else {
		w.line(head + which.Ref)
	}
}

func (w *writer) fromOrNothing(which Which) {
	if which != (Which{}) {
		w.which("from ", which)
	}
}

func markText(n int) string {
	return ":" + strconv.Itoa(n)
}

func writeBlob(w *writer, c Command) {
	w.line("blob")
	w.mark(c.Mark)
	w.data(c.Data)
}

func writeCommit(w *writer, c Command) {
	w.line("commit " + c.Ref)
	w.mark(c.Mark)
	w.text.WriteString(c.Author.Line())
	w.data(c.Data)
	w.fromOrNothing(c.From)
	for _, merged := range c.Merges {
		w.which("merge ", merged)
	}
	for _, change := range c.Changes {
		w.change(change)
	}
	w.line("")
}

func writeTag(w *writer, c Command) {
	w.line("tag " + c.Ref)
	w.which("from ", c.From)
	w.data(c.Data)
}

func writeReset(w *writer, c Command) {
	w.line("reset " + c.Ref)
	w.fromOrNothing(c.From)
	w.line("")
}

func (w *writer) change(c Change) {
	switch c.Word {
	case "M":
		w.put(c)
	case "D":
		w.line("D " + c.Path)
	case "C", "R":
		w.line(c.Word + " " + c.Path + " " + c.To)
	default:
		w.line(c.Word)
	}
}

func (w *writer) put(c Change) {
	if c.Mark > 0 {
		w.line("M " + c.Mode + " " + markText(c.Mark) + " " + c.Path)
		return
	}
	w.line("M " + c.Mode + " inline " + c.Path)
	w.data(c.Data)
}
