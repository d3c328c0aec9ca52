package command

import (
	"testing"

	"braid/api"
	"braid/history"
	"braid/object"
)

func aCommit(ref string, mark int) Command {
	return Command{Word: "commit", Ref: ref, Mark: mark, Author: object.Author{Name: "A", Mail: "a"}}
}

func TestDo(t *testing.T) {
	blob := Command{Word: "blob", Mark: 1, Data: "x"}
	tag := Command{Word: "tag", Ref: "v", From: Which{Mark: 2}}
	for _, c := range []struct {
		commands []Command
		n        int
		err      api.Errno
	}{
		{nil, 0, api.OK},
		{[]Command{blob, aCommit("m", 2), tag, {Word: "reset", Ref: "m"}}, 4, api.OK},
		{[]Command{{Word: "none"}}, 1, api.ErrForm},
		{[]Command{blob, blob}, 2, api.ErrTwice},
		{[]Command{blob, aCommit("m", 1)}, 2, api.ErrTwice},
		{[]Command{blob, aCommit("m", 3), tag}, 3, api.ErrMark},
		{[]Command{tag, blob, blob}, 1, api.ErrMark},
		{[]Command{{Word: "reset", Ref: "m", From: Which{Ref: "m"}}}, 1, api.ErrMark},
	} {
		h := history.New()
		if n, err := Do(h, c.commands); n != c.n || err != c.err {
			t.Errorf("Do(%+v) = %d, %d, want %d, %d", c.commands, n, err, c.n, c.err)
		}
		if c.err != api.OK && len(h.Ids())+len(h.Refs())+len(h.Tags()) != 0 {
			t.Errorf("Do(%+v) was refused, but has changed the history", c.commands)
		}
	}
}

// TestDoSharesNoFiles: a commit's changes leave its parent's files alone.
func TestDoSharesNoFiles(t *testing.T) {
	h := history.New()
	first, second, third := aCommit("m", 1), aCommit("m", 2), aCommit("n", 3)
	first.Changes = []Change{{Word: "M", Mode: "100644", Data: "1", Path: "a"}, {Word: "M", Mode: "100644", Data: "2", Path: "c"}}
	second.Changes = []Change{{Word: "D", Path: "a"}, {Word: "M", Mode: "100644", Data: "3", Path: "b"}}
	third.From = Which{Mark: 1}
	third.Changes = []Change{{Word: "R", Path: "a", To: "z"}, {Word: "C", Path: "z", To: "c"}}
	w := newWork(h)
	for _, c := range []Command{first, second, third} {
		if err := doCommit(w, c); err != api.OK {
			t.Fatalf("the commit %d: %d", c.Mark, err)
		}
	}
	for mark, want := range map[int]string{1: "a c", 2: "b c", 3: "c z"} {
		got := ""
		for _, f := range w.marks[mark].commit.Files {
			got += " " + f.Path
		}
		if got != " "+want {
			t.Errorf("the files of :%d are%s, want %s", mark, got, want)
		}
	}
}
