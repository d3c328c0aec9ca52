package braid_test

import (
	"fmt"
	"maps"
	"math/rand"
	"slices"
	"strings"
	"testing"

	"braid/api"
	"braid/braid"
)

// maker makes commands that are mostly right: it looks at the model to which
// they will be done.
type maker struct {
	*rand.Rand
	m *model
}

func (k maker) one(of ...string) string { return of[k.Intn(len(of))] }

func (k maker) ref() string { return k.one("a", "b", "a/b", "a-b", "0", "tags") }

func (k maker) text() string { return k.one("", "1", "2", "x\n", "\n\n", "done\n", "\x00\xff") }

// mark: one that is not set, nearly always.
func (k maker) mark() string {
	for {
		mark := fmt.Sprintf(":%d", 1+k.Intn(999))
		if m := slices.Sorted(maps.Keys(k.m.marks)); len(m) > 0 && k.Intn(40) == 0 {
			return k.one(m...)
		}
		if k.m.marks[mark] == "" {
			return mark
		}
	}
}

// named: a mark of an object of some kind, nearly always, or nothing.
func (k maker) named(kind int) string {
	var all []string
	for mark, id := range k.m.marks {
		if k.m.objects[id].kind == kind {
			all = append(all, mark)
		}
	}
	slices.Sort(all)
	if k.Intn(60) == 0 {
		return k.one(slices.Sorted(maps.Keys(k.m.marks))...)
	}
	if len(all) == 0 {
		return ""
	}
	return k.one(all...)
}

// which: a commit, nearly always, or nothing.
func (k maker) which() string {
	if k.Intn(60) == 0 {
		return k.one(k.ref(), ":1", ":2")
	}
	refs := slices.Sorted(maps.Keys(k.m.refs))
	if mark := ""; k.Intn(2) == 0 && len(k.m.marks) > 0 {
		if mark = k.named(api.Commit); mark != "" {
			return mark
		}
	}
	if len(refs) == 0 {
		return ""
	}
	return k.one(refs...)
}

// path: of few parts, so that paths meet; now and then long ones.
func (k maker) path() string {
	var parts []string
	for range 1 + k.Intn(3) {
		parts = append(parts, k.one("a", "b", "a.b", "a-b", "a0", "ab", "twelve-bytes", "Twelve_Bytes", fmt.Sprint(k.Intn(20))))
	}
	return strings.Join(parts, "/")
}

// known: a path that is there or lies above one, nearly always.
func (k maker) known(files modelFiles) string {
	if len(files) == 0 || k.Intn(20) == 0 {
		return k.path()
	}
	path := k.one(slices.Sorted(maps.Keys(files))...)
	parts := strings.Split(path, "/")
	return strings.Join(parts[:1+k.Intn(len(parts))], "/")
}

func (k maker) change(files modelFiles) modelChange {
	mode := k.one("100644", "100755")
	switch k.Intn(12) {
	case 0, 1:
		if mark := k.markOfBlob(); mark != "" {
			return modelChange{line: "M " + mode + " " + mark + " " + k.path()}
		}
		return modelChange{line: "M " + mode + " inline " + k.path(), data: k.text()}
	case 2, 3:
		return modelChange{line: "M " + mode + " inline " + k.one(k.path(), k.known(files)), data: k.text()}
	case 4:
		return modelChange{line: "D " + k.known(files)}
	case 5, 6:
		return modelChange{line: "C " + k.known(files) + " " + k.one(k.path(), k.known(files))}
	case 7:
		return modelChange{line: "R " + k.known(files) + " " + k.one(k.path(), k.known(files))}
	}
	if k.Intn(40) == 0 {
		return modelChange{line: "deleteall"}
	}
	top, _, _ := strings.Cut(k.known(files), "/")
	return modelChange{line: "C " + top + " " + k.path()}
}

func (k maker) markOfBlob() string {
	if len(k.m.marks) == 0 {
		return ""
	}
	return k.named(api.Blob)
}

func (k maker) commit() modelCommand {
	c := modelCommand{word: "commit", ref: k.ref(), mark: k.mark(), author: k.one("A <a> 0", "A B <a@b> 7", "c <.-> 9999999999"), data: k.text()}
	if k.Intn(3) == 0 {
		c.from = k.which()
	}
	for k.Intn(4) == 0 && len(c.merges) < 3 {
		if which := k.which(); which != "" {
			c.merges = append(c.merges, which)
		}
	}
	files := modelFiles{}
	if first := k.m.commit(c.from); c.from != "" {
		maps.Copy(files, k.m.commits[first])
	} else {
		maps.Copy(files, k.m.commits[k.m.refs[c.ref]])
	}
	scratch := k.m.copied()
	scratch.marks = maps.Clone(k.m.marks)
	for k.Intn(12) > 0 && len(c.changes) < 30 {
		change := k.change(files)
		before := maps.Clone(files)
		if err := scratch.change(files, change); err != api.OK && k.Intn(15) > 0 {
			files = before
			continue
		}
		c.changes = append(c.changes, change)
	}
	return c
}

func (k maker) command() modelCommand {
	switch k.Intn(8) {
	case 0, 1:
		return modelCommand{word: "blob", mark: k.mark(), data: k.text()}
	case 2:
		if which := k.which(); which != "" {
			return modelCommand{word: "tag", ref: k.ref(), from: which, data: k.text()}
		}
	case 3:
		c := modelCommand{word: "reset", ref: k.ref()}
		if k.Intn(3) > 0 {
			c.from = k.which()
		}
		return c
	}
	return k.commit()
}

// stream: commands as a text, what Import is to answer to it, and the model
// behind it.
func (k maker) stream() (string, int, api.Errno, *model) {
	before := k.m
	k.m = before.copied()
	text, n, err := "", 0, api.OK
	for range k.Intn(12) {
		c := k.command()
		if len(text)+len(c.text())+len("done\n") > api.MaxStream {
			break
		}
		text += c.text()
		if err == api.OK {
			n++
			err = k.m.do(c)
		}
	}
	if err != api.OK {
		return text + "done\n", n, err, before
	}
	return text + "done\n", n, err, k.m
}

// P4 to P7: histories of many streams, held against the model.
func TestRandomStreams(t *testing.T) {
	r := rand.New(rand.NewSource(1))
	answers, most := map[api.Errno]int{}, 0
	for range 150 {
		s, m := braid.New(), newModel()
		for range 20 {
			text, n, err, next := maker{r, m}.stream()
			if gotN, gotErr := s.Import(text); gotN != n || gotErr != err {
				t.Fatalf("P4: Import(%q) = %d, %d, want %d, %d", text, gotN, gotErr, n, err)
			}
			answers[err]++
			m = next
			if !same(tell(s), m.told()) {
				t.Fatalf("P6: behind Import(%q):\n%v\nwant\n%v", text, tell(s), m.told())
			}
		}
		for _, files := range m.commits {
			most = max(most, len(files))
		}
	}
	for _, err := range []api.Errno{api.OK, api.ErrTwice, api.ErrMark, api.ErrNone, api.ErrLimit} {
		if answers[err] < 20 {
			t.Errorf("the streams are too much alike: %v", answers)
		}
	}
	if most < 50 {
		t.Errorf("the commits are too small: at most %d files", most)
	}
}
