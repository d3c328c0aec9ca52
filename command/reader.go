package command

import (
	"strings"

	"braid/api"
	"braid/object"
	"braid/words"
)

// reader goes through a stream. Once something is wrong it stays so, and
// nothing more is read: those who read need not ask after each line.
type reader struct {
	rest string
	bad  bool
}

func (r *reader) fail() {
	r.bad = true
	r.rest = ""
}

func (r *reader) need(ok bool) {
	if !ok {
		r.fail()
	}
}

// word tells the first word of the next line, and reads nothing.
func (r *reader) word() string {
	line, _, _ := strings.Cut(r.rest, "\n")
	word, _, _ := strings.Cut(line, " ")
	return word
}

// line reads up to the byte 10.
func (r *reader) line() string {
	line, rest, ended := strings.Cut(r.rest, "\n")
	if !ended {
		r.fail()
		return ""
	}
	r.rest = rest
	return line
}

// exactly reads a line that has one form only.
func (r *reader) exactly(line string) {
	r.need(r.line() == line)
}

// after reads a line that begins with head, and gives what stands behind it.
func (r *reader) after(head string) string {
	tail, ok := strings.CutPrefix(r.line(), head)
	r.need(ok)
	return tail
}

func (r *reader) ref(head string) string {
	ref := r.after(head)
	r.need(words.IsRef(ref))
	return ref
}

func (r *reader) mark() int {
	n, ok := words.Mark(r.after("mark "))
	r.need(ok)
	return n
}

func (r *reader) which(head string) Which {
	text := r.after(head)
	if n, ok := words.Mark(text); ok {
		return Which{Mark: n}
	}
	r.need(words.IsRef(text))
	return Which{Ref: text}
}

func (r *reader) author() object.Author {
	name, rest, named := strings.Cut(r.after("author "), " <")
	mail, time, mailed := strings.Cut(rest, "> ")
	n, timed := words.Number(time, 0, api.MaxTime)
	r.need(named && mailed && timed && words.IsName(name) && words.IsMail(mail))
	return object.Author{Name: name, Mail: mail, Time: n}
}

// data reads bytes by their number: a byte 10 among them ends nothing.
func (r *reader) data() string {
	n, ok := words.Number(r.after("data "), 0, api.MaxData)
	r.need(ok)
	size := int(n)
	if size >= len(r.rest) || r.rest[size] != '\n' {
		r.fail()
		return ""
	}
	data := r.rest[:size]
	r.rest = r.rest[size+1:]
	return data
}
