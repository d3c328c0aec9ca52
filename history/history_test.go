package history

import (
	"slices"
	"testing"

	"braid/api"
	"braid/object"
)

func commit(message string) *object.Commit {
	return object.NewMaker().Commit(nil, object.NewMaker().Tree(nil), nil, object.Author{Name: "A", Mail: "a"}, message)
}

func holdRefs(t *testing.T, what string, got []api.Ref, want ...api.Ref) {
	t.Helper()
	if !slices.Equal(got, want) {
		t.Errorf("%s: %v, want %v", what, got, want)
	}
}

// TestDraft: what it makes is asked of it at once, and of the history once it
// is kept.
func TestDraft(t *testing.T) {
	h := New()
	one, two := commit("1"), commit("2")
	d := h.Draft()
	d.AddCommit(one)
	d.SetRef("m", one)
	d.AddTag(object.NewMaker().Tag("v", one, ""))
	if d.Ref("m") != one || d.Ref("v") != nil {
		t.Error("the draft does not know its refs")
	}
	if len(h.Refs()) != 0 || len(h.Tags()) != 0 || len(h.Ids()) != 0 {
		t.Error("the history was changed by a draft")
	}
	if _, ok := h.Commit(one.Id); ok {
		t.Error("the history has a draft's commit")
	}
	if h.Ref("m") != nil || h.Tag("v") != nil {
		t.Error("the history has a draft's ref or tag")
	}
	d.Keep()
	holdRefs(t, "refs", h.Refs(), api.Ref{Name: "m", Id: one.Id})
	if h.Ref("m") != one || h.Ref("v") != nil || h.Tag("m") != nil || h.Tag("v") == nil || h.Tag("v").Commit != one {
		t.Error("the history does not know its refs and tags")
	}
	d = h.Draft()
	d.SetRef("m", nil)
	d.SetRef("n", two)
	if d.Ref("m") != nil || d.Ref("n") != two {
		t.Error("the draft asks the history for what it has set")
	}
	holdRefs(t, "refs ahead of Keep", h.Refs(), api.Ref{Name: "m", Id: one.Id})
	d.SetRef("m", one)
	d.SetRef("n", nil)
	d.SetRef("a", two)
	d.Keep()
	holdRefs(t, "refs behind Keep", h.Refs(), api.Ref{Name: "a", Id: two.Id}, api.Ref{Name: "m", Id: one.Id})
}

// TestObjects: by id, whatever they are; commits also as such.
func TestObjects(t *testing.T) {
	h := New()
	blob, c := object.NewMaker().Blob("x"), commit("")
	tag := object.NewMaker().Tag("v", c, "")
	d := h.Draft()
	d.AddBlob(blob)
	d.AddBlob(blob)
	d.AddTree(&object.Tree{Object: object.NewMaker().Tree(nil).Object, Within: []*object.Tree{{Object: object.Object{Kind: api.Tree, Id: "within"}}}})
	d.AddCommit(c)
	d.AddTag(tag)
	d.Keep()
	want := []string{blob.Id, c.Id, tag.Id, object.NewMaker().Tree(nil).Id, "within"}
	slices.Sort(want)
	if got := h.Ids(); !slices.Equal(got, want) {
		t.Errorf("Ids = %v, want %v", got, want)
	}
	for _, want := range []object.Object{blob, c.Object, tag.Object} {
		if got, ok := h.Object(want.Id); got != want || !ok {
			t.Errorf("Object(%s) = %v, %t", want.Id, got, ok)
		}
	}
	if got, ok := h.Commit(c.Id); got != c || !ok {
		t.Errorf("Commit(%s) = %v, %t", c.Id, got, ok)
	}
	for _, id := range []string{"", blob.Id, tag.Id} {
		if got, ok := h.Commit(id); got != nil || ok {
			t.Errorf("Commit(%s) = %v, %t", id, got, ok)
		}
	}
	if _, ok := h.Object("none"); ok {
		t.Error("there is an object of no id")
	}
}

// TestTagAgain: the name goes to the later one, both objects stay.
func TestTagAgain(t *testing.T) {
	h := New()
	first, second := object.NewMaker().Tag("v", commit("1"), ""), object.NewMaker().Tag("v", commit("2"), "")
	for _, tag := range []*object.Tag{first, second} {
		d := h.Draft()
		d.AddTag(tag)
		d.Keep()
	}
	holdRefs(t, "tags", h.Tags(), api.Ref{Name: "v", Id: second.Id})
	if h.Tag("v") != second {
		t.Errorf("the tag is %v", h.Tag("v"))
	}
	if len(h.Ids()) != 2 {
		t.Errorf("there are %d objects", len(h.Ids()))
	}
}
