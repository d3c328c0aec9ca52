package braid_test

import (
	"fmt"
	"maps"
	"slices"
	"strings"

	"braid/api"
)

// What goes out once more, from the model and in the document's words: what
// Export answers is held against it.

// modelOut: a stream that goes out, with what its marks and refs name at this
// place of it (by ids).
type modelOut struct {
	m        *model
	rules    []api.Rule
	text     string
	commands int
	changes  int // the most that a commit has
	marks    map[string]int
	refs     map[string]string
}

// modelRead: a commit or tag as its content tells it.
type modelRead struct {
	parents               []string
	object, name, message string
	author, mail, time    string
}

func (m *model) read(id string) modelRead {
	lines, message, _ := strings.Cut(m.objects[id].content, "\n\n")
	r := modelRead{message: message}
	for _, line := range strings.Split(lines, "\n") {
		word, rest, _ := strings.Cut(line, " ")
		switch word {
		case "parent":
			r.parents = append(r.parents, rest)
		case "object":
			r.object = rest
		case "tag":
			r.name = rest
		case "author":
			name, rest, _ := strings.Cut(rest, " <")
			mail, time, _ := strings.Cut(rest, "> ")
			r.author, r.mail, r.time = name, mail, time
		}
	}
	return r
}

func (o *modelOut) add(text string) {
	o.text += text
	o.commands++
}

func (o *modelOut) mark(id string) string {
	return fmt.Sprintf(":%d", o.marks[id])
}

// newMark: a line, for what is written now.
func (o *modelOut) newMark(id string) string {
	o.marks[id] = len(o.marks) + 1
	return "mark " + o.mark(id) + "\n"
}

// goesTo: the path of a file as the rules make it, or nothing.
func (o *modelOut) goesTo(path string) string {
	for _, r := range o.rules {
		if r.Kind == api.Author || path != r.From && !strings.HasPrefix(path, r.From+"/") {
			continue
		}
		if r.Kind == api.Drop {
			return ""
		}
		path = r.To + path[len(r.From):]
	}
	if len(path) > 60 || strings.Count(path, "/") > 5 {
		return ""
	}
	return path
}

// files: a commit's, made anew.
func (o *modelOut) files(id string) modelFiles {
	made := modelFiles{}
	for _, path := range slices.Sorted(maps.Keys(o.m.commits[id])) {
		if to := o.goesTo(path); to != "" {
			made.makeRoom(to)
			made[to] = o.m.commits[id][path]
		}
	}
	return made
}

func (o *modelOut) authorLine(r modelRead) string {
	for _, rule := range o.rules {
		if rule.Kind == api.Author && rule.From == r.mail {
			r.author, r.mail = rule.Name, rule.To
			break
		}
	}
	return "author " + r.author + " <" + r.mail + "> " + r.time + "\n"
}

func (o *modelOut) commit(ref, id string) {
	r := o.m.read(id)
	now, before := o.files(id), modelFiles{}
	if len(r.parents) > 0 {
		before = o.files(r.parents[0])
	}
	var lines []string
	for _, path := range slices.Sorted(maps.Keys(before)) {
		if _, ok := now[path]; !ok {
			lines = append(lines, "D "+path+"\n")
		}
	}
	for _, path := range slices.Sorted(maps.Keys(now)) {
		f := now[path]
		if was, ok := before[path]; ok && was == f {
			continue
		}
		if o.marks[f.blob] == 0 {
			o.add("blob\n" + o.newMark(f.blob) + data(o.m.objects[f.blob].content))
		}
		lines = append(lines, "M "+f.mode+" "+o.mark(f.blob)+" "+path+"\n")
	}
	if len(r.parents) == 0 && o.refs[ref] != "" {
		o.add("reset " + ref + "\n\n")
	}
	text := "commit " + ref + "\n" + o.newMark(id) + o.authorLine(r) + data(r.message)
	for i, parent := range r.parents {
		text += []string{"from ", "merge ", "merge ", "merge "}[i] + o.mark(parent) + "\n"
	}
	o.add(text + strings.Join(lines, "") + "\n")
	o.changes = max(o.changes, len(lines))
	o.refs[ref] = id
}

// history: the first commit on the way whose parents are all written is
// written, until it is the one that was asked for.
func (o *modelOut) history(ref, id string) {
	for o.marks[id] == 0 {
		next := id
		for {
			i := slices.IndexFunc(o.m.read(next).parents, func(p string) bool { return o.marks[p] == 0 })
			if i < 0 {
				break
			}
			next = o.m.read(next).parents[i]
		}
		o.commit(ref, next)
	}
}

func (o *modelOut) tags() {
	done := false
	for _, name := range slices.Sorted(maps.Keys(o.m.tags)) {
		r := o.m.read(o.m.tags[name])
		if o.marks[r.object] == 0 {
			done = true
			o.history("tags", r.object)
		}
		o.add("tag " + r.name + "\nfrom " + o.mark(r.object) + "\n" + data(r.message))
	}
	if id, ok := o.m.refs["tags"]; ok && done {
		o.add("reset tags\nfrom " + o.mark(id) + "\n\n")
	} else if done {
		o.add("reset tags\n\n")
	}
}

// export: of rules that are right.
func (m *model) export(rules []api.Rule) (string, api.Errno) {
	o := &modelOut{m: m, rules: rules, marks: map[string]int{}, refs: map[string]string{}}
	for _, ref := range slices.Sorted(maps.Keys(m.refs)) {
		id := m.refs[ref]
		o.history(ref, id)
		if o.refs[ref] != id {
			o.add("reset " + ref + "\nfrom " + o.mark(id) + "\n\n")
			o.refs[ref] = id
		}
	}
	o.tags()
	o.text += "done\n"
	if len(o.text) > api.MaxStream || o.commands > api.MaxCommands || o.changes > api.MaxChanges {
		return "", api.ErrLimit
	}
	return o.text, api.OK
}
