// Package command takes streams apart into their commands, does these, and
// writes them as streams again.
package command

import (
	"strings"

	"braid/api"
	"braid/object"
)

// Command is a command as it was written. Which of the fields have a meaning
// hangs on its word.
type Command struct {
	Word    string
	Ref     string
	Mark    int
	Author  object.Author
	Data    string
	From    Which
	Merges  []Which
	Changes []Change
}

// Which names a commit: by a mark, or by a ref if the mark is 0. Without
// either it stands for a line that was not written.
type Which struct {
	Mark int
	Ref  string
}

// Change is what a commit does to its files. The data of an M stands in the
// change itself if its mark is 0.
type Change struct {
	Word     string
	Mode     string
	Mark     int
	Data     string
	Path, To string
}

// row is what the table knows of one command: how it is read, what it does,
// and how it is written.
type row struct {
	word  string
	read  func(r *reader, c *Command)
	do    func(w *work, c Command) api.Errno
	write func(w *writer, c Command)
}

func table() []row {
	return []row{
		{word: "blob", read: readBlob, do: doBlob, write: writeBlob},
		{word: "commit", read: readCommit, do: doCommit, write: writeCommit},
		{word: "tag", read: readTag, do: doTag, write: writeTag},
		{word: "reset", read: readReset, do: doReset, write: writeReset},
	}
}

func find(word string) (row, bool) {
	for _, known := range table() {
		if known.word == word {
			return known, true
		}
	}
	return row{}, false
}

// Read takes a stream apart. The number is that of the command that is wrong
// (ErrForm), or how many commands there are (OK). The commands' texts lie in a
// copy of the stream, so that they can be kept.
func Read(stream string) ([]Command, int, api.Errno) {
	if len(stream) > api.MaxStream {
		return nil, 0, api.ErrLimit
	}
	r := &reader{rest: strings.Clone(stream)}
	commands := readAll(r)
	if r.bad {
		return nil, len(commands) + 1, api.ErrForm
	}
	if r.rest != "" {
		return nil, len(commands) + 2, api.ErrForm
	}
	if len(commands) > api.MaxCommands {
		return nil, 0, api.ErrLimit
	}
	return commands, len(commands), api.OK
}

// readAll reads up to `done`, or up to the first command that is wrong. It
// does not stop at MaxCommands: a wrong command behind them is told first.
func readAll(r *reader) []Command {
	var commands []Command
	for {
		if r.word() == "done" {
			r.exactly("done")
			return commands
		}
		c := readOne(r)
		if r.bad {
			return commands
		}
		commands = append(commands, c)
	}
}

func readOne(r *reader) Command {
	c := Command{Word: r.word()}
	known, ok := find(c.Word)
	if !ok {
		r.fail()
		return Command{}
	}
	known.read(r, &c)
	return c
}

func readBlob(r *reader, c *Command) {
	r.exactly("blob")
	c.Mark = r.mark()
	c.Data = r.data()
}

func readCommit(r *reader, c *Command) {
	c.Ref = r.ref("commit ")
	c.Mark = r.mark()
	c.Author = r.author()
	c.Data = r.data()
	c.From = r.fromOrNothing()
	c.Merges = r.merges()
	c.Changes = r.changes()
}

func readTag(r *reader, c *Command) {
	c.Ref = r.ref("tag ")
	c.From = r.which("from ")
	c.Data = r.data()
}

func readReset(r *reader, c *Command) {
	c.Ref = r.ref("reset ")
	c.From = r.fromOrNothing()
	r.exactly("")
}

func (r *reader) fromOrNothing() Which {
	if strings.HasPrefix(r.rest, "from ") {
		return r.which("from ")
	}
	return Which{}
}

func (r *reader) merges() []Which {
	var all []Which
	for strings.HasPrefix(r.rest, "merge ") {
		all = append(all, r.which("merge "))
	}
	r.need(len(all) < api.MaxParents)
	return all
}
