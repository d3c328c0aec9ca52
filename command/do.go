package command

import (
	"braid/api"
	"braid/history"
)

// Do does commands to a history, one behind the other. The number is that of
// the command that is wrong (none is done then), or how many were done (OK).
func Do(past *history.History, commands []Command) (int, api.Errno) {
	w := newWork(past)
	for i, c := range commands {
		known, ok := find(c.Word)
		if !ok {
			return i + 1, api.ErrForm
		}
		if err := known.do(w, c); err != api.OK {
			return i + 1, err
		}
	}
	w.draft.Keep()
	return len(commands), api.OK
}

func doBlob(w *work, c Command) api.Errno {
	if w.isSet(c.Mark) {
		return api.ErrTwice
	}
	w.marks[c.Mark] = marked{blob: w.blob(c.Data)}
	return api.OK
}

func doCommit(w *work, c Command) api.Errno {
	if w.isSet(c.Mark) {
		return api.ErrTwice
	}
	parents, list, err := w.parents(c)
	if err != api.OK {
		return err
	}
	if list, err = w.changed(list, c.Changes); err != api.OK {
		return err
	}
	tree := w.maker.Tree(list)
	commit := w.maker.Commit(list, tree, parents, c.Author, c.Data)
	w.draft.AddTree(tree)
	w.draft.AddCommit(commit)
	w.draft.SetRef(c.Ref, commit)
	w.marks[c.Mark] = marked{commit: commit}
	return api.OK
}

func doTag(w *work, c Command) api.Errno {
	commit, err := w.commit(c.From)
	if err != api.OK {
		return err
	}
	w.draft.AddTag(w.maker.Tag(c.Ref, commit, c.Data))
	return api.OK
}

func doReset(w *work, c Command) api.Errno {
	if c.From == (Which{}) {
		w.draft.SetRef(c.Ref, nil)
		return api.OK
	}
	commit, err := w.commit(c.From)
	if err != api.OK {
		return err
	}
	w.draft.SetRef(c.Ref, commit)
	return api.OK
}
