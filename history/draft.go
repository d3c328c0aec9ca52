package history

import (
	"maps"

	"braid/object"
)

// Draft is what a stream has done so far. The history it goes on from is
// asked, but stays as it is until Keep: a stream that turns out to be wrong
// leaves no trace.
type Draft struct {
	past *History
	made *History
}

// Draft begins one.
func (h *History) Draft() *Draft {
	return &Draft{past: h, made: New()}
}

// Keep lays what was made into the history.
func (d *Draft) Keep() {
	maps.Copy(d.past.objects, d.made.objects)
	maps.Copy(d.past.commits, d.made.commits)
	maps.Copy(d.past.tags, d.made.tags)
	for name, commit := range d.made.refs {
		if commit == nil {
			delete(d.past.refs, name)
		} else {
			d.past.refs[name] = commit
		}
	}
}

// Ref gives the commit that a ref names, or nil.
func (d *Draft) Ref(name string) *object.Commit {
	if commit, ok := d.made.refs[name]; ok {
		return commit
	}
	return d.past.Ref(name)
}

// SetRef has a ref name a commit, or, if that is nil, be no more.
func (d *Draft) SetRef(name string, commit *object.Commit) {
	d.made.refs[name] = commit
}

// AddBlob adds a blob.
func (d *Draft) AddBlob(blob object.Object) {
	d.add(blob)
}

// AddTree adds a tree and all trees within it.
func (d *Draft) AddTree(tree *object.Tree) {
	d.add(tree.Object)
	for _, within := range tree.Within {
		d.AddTree(within)
	}
}

// AddCommit adds a commit. Its tree is added for itself.
func (d *Draft) AddCommit(commit *object.Commit) {
	d.add(commit.Object)
	d.made.commits[commit.Id] = commit
}

// AddTag adds a tag, and has its name name it.
func (d *Draft) AddTag(tag *object.Tag) {
	d.add(tag.Object)
	d.made.tags[tag.Name] = tag
}

func (d *Draft) add(o object.Object) {
	d.made.objects[o.Id] = o
}
