// Package export makes streams of histories.
package export

import (
	"braid/api"
	"braid/command"
	"braid/history"
	"braid/rules"
)

// tagsRef is the ref on which those commits are written that only tags lead
// to.
const tagsRef = "tags"

// Stream makes a stream of all that the refs and tags of a history lead to,
// changed by rules.
func Stream(past *history.History, by rules.Rules) (string, api.Errno) {
	if !by.AreRight() {
		return "", api.ErrRule
	}
	w := &work{past: past, by: by, marks: map[string]int{}, named: map[string]int{}}
	w.addRefs()
	w.addTags()
	if w.tooMuch {
		return "", api.ErrLimit
	}
	text := command.Write(w.commands)
	if len(text) > api.MaxStream {
		return "", api.ErrLimit
	}
	return text, api.OK
}

func (w *work) addRefs() {
	for _, ref := range w.past.Refs() {
		commit := w.past.Ref(ref.Name)
		w.addHistory(ref.Name, commit, 0)
		if mark := w.marks[commit.Id]; w.named[ref.Name] != mark {
			w.addReset(ref.Name, mark)
		}
	}
}

func (w *work) addTags() {
	tagsMoved := false
	for _, ref := range w.past.Tags() {
		tag := w.past.Tag(ref.Name)
		if w.marks[tag.Commit.Id] == 0 {
			w.addHistory(tagsRef, tag.Commit, 0)
			tagsMoved = true
		}
		w.addTag(tag)
	}
	if tagsMoved {
		w.resetTagsRef()
	}
}

// resetTagsRef has the ref name again what it names in the history.
func (w *work) resetTagsRef() {
	mark := 0
	if commit := w.past.Ref(tagsRef); commit != nil {
		mark = w.marks[commit.Id]
	}
	w.addReset(tagsRef, mark)
}
