package braid_test

import (
	"crypto/sha256"
	"encoding/hex"
	"fmt"
	"maps"
	"slices"
	"strings"
	"unsafe"

	"braid/api"
)

// What streams do once more, by plain maps and in the document's words: what
// a store tells is held against it.

// asText: bytes as a text that shares their memory.
func asText(b []byte) string { return unsafe.String(unsafe.SliceData(b), len(b)) }

type modelObject struct {
	kind    int
	content string
}

type modelFile struct{ mode, blob string }

type modelFiles map[string]modelFile

type model struct {
	objects map[string]modelObject
	commits map[string]modelFiles
	refs    map[string]string
	tags    map[string]string
	marks   map[string]string // a mark with its colon: an id
}

func newModel() *model {
	return &model{map[string]modelObject{}, map[string]modelFiles{}, map[string]string{}, map[string]string{}, map[string]string{}}
}

// copied: with no marks.
func (m *model) copied() *model {
	return &model{maps.Clone(m.objects), maps.Clone(m.commits), maps.Clone(m.refs), maps.Clone(m.tags), map[string]string{}}
}

func (m *model) add(kind int, content string) string {
	word := []string{"", "blob", "tree", "commit", "tag"}[kind]
	sum := sha256.Sum256(fmt.Appendf(nil, "%s %d\x00%s", word, len(content), content))
	id := hex.EncodeToString(sum[:])
	m.objects[id] = modelObject{kind, content}
	return id
}

// commit: the id of the commit that a mark or ref names, or nothing.
func (m *model) commit(which string) string {
	id := m.refs[which]
	if strings.HasPrefix(which, ":") {
		id = m.marks[which]
	}
	if m.objects[id].kind != api.Commit {
		return ""
	}
	return id
}

func (m *model) tree(files modelFiles) string {
	type entry struct{ name, mode, id string }
	var entries []entry
	inside := map[string]modelFiles{}
	for path, f := range files {
		name, rest, ok := strings.Cut(path, "/")
		if !ok {
			entries = append(entries, entry{name, f.mode, f.blob})
			continue
		}
		if inside[name] == nil {
			inside[name] = modelFiles{}
		}
		inside[name][rest] = f
	}
	for name, files := range inside {
		entries = append(entries, entry{name + "/", "40000", m.tree(files)})
	}
	slices.SortFunc(entries, func(a, b entry) int { return strings.Compare(a.name, b.name) })
	content := ""
	for _, e := range entries {
		raw, _ := hex.DecodeString(e.id)
		content += e.mode + " " + strings.TrimSuffix(e.name, "/") + "\x00" + string(raw)
	}
	return m.add(api.Tree, content)
}

// atOrBelow: the paths at a path and below it.
func (f modelFiles) atOrBelow(top string) []string {
	var all []string
	for path := range f {
		if path == top || strings.HasPrefix(path, top+"/") {
			all = append(all, path)
		}
	}
	slices.Sort(all) // a change that is wrong half way leaves the same half each time
	return all
}

func (f modelFiles) remove(paths []string) {
	for _, path := range paths {
		delete(f, path)
	}
}

// makeRoom: what lay at the path or below it is gone, and any file above it.
func (f modelFiles) makeRoom(path string) {
	f.remove(f.atOrBelow(path))
	for i := range len(path) {
		if path[i] == '/' {
			delete(f, path[:i])
		}
	}
}

// copyTo: C, and which paths it took and put.
func (f modelFiles) copyTo(from, to string) (took, put []string, err api.Errno) {
	before := maps.Clone(f)
	took = f.atOrBelow(from)
	if len(took) == 0 {
		return nil, nil, api.ErrNone
	}
	f.makeRoom(to)
	for _, path := range took {
		target := to + path[len(from):]
		if len(target) > api.MaxPath || len(strings.Split(target, "/")) > api.MaxParts {
			return nil, nil, api.ErrLimit
		}
		f[target] = before[path]
		put = append(put, target)
	}
	return took, put, api.OK
}

// change: one line (with its data, if it has any), split at blanks.
func (m *model) change(f modelFiles, c modelChange) api.Errno {
	words := strings.Split(c.line, " ")
	switch words[0] {
	case "M":
		id := m.marks[words[2]]
		if words[2] == "inline" {
			id = m.add(api.Blob, c.data)
		}
		if m.objects[id].kind != api.Blob {
			return api.ErrMark
		}
		f.makeRoom(words[3])
		f[words[3]] = modelFile{words[1], id}
	case "D":
		f.remove(f.atOrBelow(words[1]))
	case "C", "R":
		took, put, err := f.copyTo(words[1], words[2])
		if err != api.OK {
			return err
		}
		if words[0] == "R" {
			f.remove(slices.DeleteFunc(took, func(path string) bool { return slices.Contains(put, path) }))
		}
	case "deleteall":
		clear(f)
	}
	if len(f) > api.MaxFiles {
		return api.ErrLimit
	}
	return api.OK
}

type modelChange struct{ line, data string }

// modelCommand: a command in its parts; those that it does not have are empty.
type modelCommand struct {
	word, ref, mark, author, data, from string
	merges                              []string
	changes                             []modelChange
}

// text: the command as a stream writes it.
func (c modelCommand) text() string {
	out := strings.TrimSpace(c.word+" "+c.ref) + "\n"
	if c.mark != "" {
		out += "mark " + c.mark + "\n"
	}
	from := ""
	if c.from != "" {
		from = "from " + c.from + "\n"
	}
	switch c.word {
	case "blob":
		return out + data(c.data)
	case "tag":
		return out + from + data(c.data)
	case "reset":
		return out + from + "\n"
	}
	out += "author " + c.author + "\n" + data(c.data) + from
	for _, which := range c.merges {
		out += "merge " + which + "\n"
	}
	for _, change := range c.changes {
		out += change.line + "\n"
		if strings.Contains(change.line, " inline ") {
			out += data(change.data)
		}
	}
	return out + "\n"
}

// do: the first error of a command in its lines' order, or what it does.
func (m *model) do(c modelCommand) api.Errno {
	if c.mark != "" && m.marks[c.mark] != "" {
		return api.ErrTwice
	}
	if c.from != "" && m.commit(c.from) == "" {
		return api.ErrMark
	}
	switch c.word {
	case "blob":
		m.marks[c.mark] = m.add(api.Blob, c.data)
	case "commit":
		return m.doCommit(c)
	case "tag":
		m.tags[c.ref] = m.add(api.Tag, "object "+m.commit(c.from)+"\ntag "+c.ref+"\n\n"+c.data)
	case "reset":
		if c.from == "" {
			delete(m.refs, c.ref)
		} else {
			m.refs[c.ref] = m.commit(c.from)
		}
	}
	return api.OK
}

func (m *model) doCommit(c modelCommand) api.Errno {
	files, lines := modelFiles{}, ""
	first := m.refs[c.ref]
	if c.from != "" {
		first = m.commit(c.from)
	}
	if first != "" {
		lines = "parent " + first + "\n"
		maps.Copy(files, m.commits[first])
	}
	for _, which := range c.merges {
		id := m.commit(which)
		if id == "" {
			return api.ErrMark
		}
		lines += "parent " + id + "\n"
	}
	for _, change := range c.changes {
		if err := m.change(files, change); err != api.OK {
			return err
		}
	}
	id := m.add(api.Commit, "tree "+m.tree(files)+"\n"+lines+"author "+c.author+"\n\n"+c.data)
	m.commits[id] = files
	m.refs[c.ref] = id
	m.marks[c.mark] = id
	return api.OK
}

// told: all that a store with the same history tells.
func (m *model) told() told {
	all := told{refs: modelNames(m.refs), tags: modelNames(m.tags), ids: slices.Sorted(maps.Keys(m.objects))}
	for _, id := range all.ids {
		files, ok := m.commits[id]
		err := api.ErrNone
		if ok {
			err = api.OK
		}
		var list []string
		for _, path := range slices.Sorted(maps.Keys(files)) {
			list = append(list, files[path].mode+" "+files[path].blob+" "+path)
		}
		all.files = append(all.files, fmt.Sprint(m.objects[id].kind)+m.objects[id].content+fmt.Sprint(int(err))+strings.Join(list, "\n"))
	}
	return all
}

func modelNames(names map[string]string) []api.Ref {
	var all []api.Ref
	for _, name := range slices.Sorted(maps.Keys(names)) {
		all = append(all, api.Ref{Name: name, Id: names[name]})
	}
	return all
}
