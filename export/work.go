package export

import (
	"braid/api"
	"braid/command"
	"braid/files"
	"braid/history"
	"braid/object"
	"braid/rules"
)

// work is a stream that is being made. Once it is too much it stays so, and
// nothing more is added: those who add need not ask each time.
type work struct {
	past     *history.History
	by       rules.Rules
	commands []command.Command
	marks    map[string]int // of the blobs and commits in the stream, by their ids
	named    map[string]int // the marks of what refs name at this place of it
	tooMuch  bool
}

// add adds a command. Marks need no bound of their own: there are fewer
// commands than marks may be.
func (w *work) add(c command.Command) {
	if len(w.commands) == api.MaxCommands || len(c.Changes) > api.MaxChanges {
		w.tooMuch = true
	}
	if !w.tooMuch {
		w.commands = append(w.commands, c)
	}
}

// newMark gives the next mark to what has none yet.
func (w *work) newMark(id string) int {
	mark := len(w.marks) + 1
	w.marks[id] = mark
	return mark
}

// addHistory adds a commit behind all that leads to it. How many commits wait
// to be added behind this one is counted, since each of them is a command: a
// history that is too long is seen ahead of going down to its beginning.
func (w *work) addHistory(ref string, commit *object.Commit, waiting int) {
	if waiting == api.MaxCommands {
		w.tooMuch = true
	}
	if w.tooMuch || w.marks[commit.Id] > 0 {
		return
	}
	for _, parent := range commit.Parents {
		w.addHistory(ref, parent, waiting+1)
	}
	w.addCommit(ref, commit)
}

func (w *work) addCommit(ref string, commit *object.Commit) {
	gone, put := w.by.Files(commit.Files).Since(w.filesBefore(commit))
	for _, f := range put {
		w.addBlob(f.Blob)
	}
	if len(commit.Parents) == 0 && w.named[ref] > 0 {
		w.addReset(ref, 0)
	}
	c := command.Command{
		Word:    "commit",
		Ref:     ref,
		Author:  w.by.Author(commit.Author),
		Data:    commit.Message,
		Changes: w.changes(gone, put),
	}
	c.From, c.Merges = w.parents(commit)
	c.Mark = w.newMark(commit.Id)
	w.add(c)
	w.named[ref] = c.Mark
}

// filesBefore gives the files that a commit begins with in the stream.
func (w *work) filesBefore(commit *object.Commit) files.List {
	if len(commit.Parents) == 0 {
		return nil
	}
	return w.by.Files(commit.Parents[0].Files)
}

func (w *work) parents(commit *object.Commit) (command.Which, []command.Which) {
	var all []command.Which
	for _, parent := range commit.Parents {
		all = append(all, command.Which{Mark: w.marks[parent.Id]})
	}
	if len(all) == 0 {
		return command.Which{}, nil
	}
	return all[0], all[1:]
}

func (w *work) changes(gone, put files.List) []command.Change {
	var all []command.Change
	for _, f := range gone {
		all = append(all, command.Change{Word: "D", Path: f.Path})
	}
	for _, f := range put {
		all = append(all, command.Change{Word: "M", Mode: f.Mode, Mark: w.marks[f.Blob], Path: f.Path})
	}
	return all
}

func (w *work) addBlob(id string) {
	if w.marks[id] > 0 {
		return
	}
	blob, _ := w.past.Object(id)
	w.add(command.Command{Word: "blob", Mark: w.newMark(id), Data: blob.Content})
}

// addReset has a ref name the commit of a mark, or, if that is 0, be no more.
func (w *work) addReset(ref string, mark int) {
	w.add(command.Command{Word: "reset", Ref: ref, From: command.Which{Mark: mark}})
	w.named[ref] = mark
}

func (w *work) addTag(tag *object.Tag) {
	from := command.Which{Mark: w.marks[tag.Commit.Id]}
	w.add(command.Command{Word: "tag", Ref: tag.Name, From: from, Data: tag.Message})
}
