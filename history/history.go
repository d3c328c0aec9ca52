// Package history keeps objects by their ids, and refs and tags by their
// names.
package history

import (
	"maps"
	"slices"

	"braid/api"
	"braid/object"
)

// History is all that a store has.
type History struct {
	objects map[string]object.Object
	commits map[string]*object.Commit
	refs    map[string]*object.Commit
	tags    map[string]*object.Tag
}

// New makes an empty history.
func New() *History {
	return &History{
		objects: map[string]object.Object{},
		commits: map[string]*object.Commit{},
		refs:    map[string]*object.Commit{},
		tags:    map[string]*object.Tag{},
	}
}

// Refs tells all refs, by their names.
func (h *History) Refs() []api.Ref {
	var all []api.Ref
	for _, name := range slices.Sorted(maps.Keys(h.refs)) {
		all = append(all, api.Ref{Name: name, Id: h.refs[name].Id})
	}
	return all
}

// Tags tells all tags, by their names.
func (h *History) Tags() []api.Ref {
	var all []api.Ref
	for _, name := range slices.Sorted(maps.Keys(h.tags)) {
		all = append(all, api.Ref{Name: name, Id: h.tags[name].Id})
	}
	return all
}

// Ref gives the commit that a ref names, or nil.
func (h *History) Ref(name string) *object.Commit {
	return h.refs[name]
}

// Tag gives the tag of a name, or nil.
func (h *History) Tag(name string) *object.Tag {
	return h.tags[name]
}

// Ids tells the ids of all objects, in order.
func (h *History) Ids() []string {
	return slices.Sorted(maps.Keys(h.objects))
}

// Object tells whether there is an object of an id, and gives it.
func (h *History) Object(id string) (object.Object, bool) {
	o, ok := h.objects[id]
	return o, ok
}

// Commit tells whether there is a commit of an id, and gives it.
func (h *History) Commit(id string) (*object.Commit, bool) {
	c, ok := h.commits[id]
	return c, ok
}
