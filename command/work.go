package command

import (
	"braid/api"
	"braid/files"
	"braid/history"
	"braid/object"
)

// work is a stream that is being done. Marks are known in it alone.
type work struct {
	draft *history.Draft
	maker *object.Maker
	marks map[int]marked
}

func newWork(past *history.History) *work {
	return &work{draft: past.Draft(), maker: object.NewMaker(), marks: map[int]marked{}}
}

// marked is what a mark names: a commit, or else a blob, by its id.
type marked struct {
	commit *object.Commit
	blob   string
}

func (w *work) isSet(mark int) bool {
	_, ok := w.marks[mark]
	return ok
}

// commit gives the commit that a line names. (What a mark that is not set
// names is no commit either.)
func (w *work) commit(which Which) (*object.Commit, api.Errno) {
	commit := w.marks[which.Mark].commit
	if which.Mark == 0 {
		commit = w.draft.Ref(which.Ref)
	}
	if commit == nil {
		return nil, api.ErrMark
	}
	return commit, api.OK
}

// first gives a commit's first parent, or nil if it has neither a from nor a
// ref that names a commit.
func (w *work) first(c Command) (*object.Commit, api.Errno) {
	if c.From == (Which{}) {
		return w.draft.Ref(c.Ref), api.OK
	}
	return w.commit(c.From)
}

// parents gives a commit's parents, and the files that it begins with: those
// of the first one, but never of one that it merges.
func (w *work) parents(c Command) ([]*object.Commit, files.List, api.Errno) {
	first, err := w.first(c)
	if err != api.OK {
		return nil, nil, err
	}
	var all []*object.Commit
	var list files.List
	if first != nil {
		all = append(all, first)
		list = first.Files
	}
	for _, which := range c.Merges {
		merged, err := w.commit(which)
		if err != api.OK {
			return nil, nil, err
		}
		all = append(all, merged)
	}
	return all, list, api.OK
}

// changed does a commit's changes to files.
func (w *work) changed(list files.List, changes []Change) (files.List, api.Errno) {
	err := api.OK
	for _, change := range changes {
		if list, err = w.changedBy(list, change); err != api.OK {
			return nil, err
		}
	}
	return list, api.OK
}

func (w *work) changedBy(list files.List, change Change) (files.List, api.Errno) {
	switch change.Word {
	case "M":
		blob, err := w.content(change)
		if err != api.OK {
			return nil, err
		}
		return list.Put(files.File{Path: change.Path, Mode: change.Mode, Blob: blob})
	case "D":
		return list.Delete(change.Path), api.OK
	case "C":
		return list.Copy(change.Path, change.To)
	case "R":
		return list.Move(change.Path, change.To)
	}
	return nil, api.OK // deleteall
}

// content gives the id of the blob that an M puts. Data in the change itself
// is a blob from then on, whatever the next changes do.
func (w *work) content(change Change) (string, api.Errno) {
	if change.Mark == 0 {
		return w.blob(change.Data), api.OK
	}
	blob := w.marks[change.Mark].blob
	if blob == "" {
		return "", api.ErrMark
	}
	return blob, api.OK
}

// blob makes a blob and gives its id.
func (w *work) blob(data string) string {
	blob := w.maker.Blob(data)
	w.draft.AddBlob(blob)
	return blob.Id
}
