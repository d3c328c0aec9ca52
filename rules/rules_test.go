package rules

import (
	"slices"
	"strings"
	"testing"

	"braid/api"
	"braid/files"
	"braid/object"
)

func drop(from string) api.Rule { return api.Rule{Kind: api.Drop, From: from} }

func move(from, to string) api.Rule { return api.Rule{Kind: api.Move, From: from, To: to} }

func author(from, name, to string) api.Rule {
	return api.Rule{Kind: api.Author, From: from, To: to, Name: name}
}

// TestAreRight: each kind asks for what it makes use of, and for nothing more.
func TestAreRight(t *testing.T) {
	for _, rule := range []api.Rule{
		drop("a"), drop("a/b/c/d/e/f"), {Kind: api.Drop, From: "a", To: "//", Name: "\n"},
		move("a", "b"), move("a", "a"), {Kind: api.Move, From: "a/b", To: "c_D", Name: "\n"},
		author("a@b", "A B", "c.-"), author(strings.Repeat("a", 20), strings.Repeat("a", 20), strings.Repeat("a", 20)),
	} {
		if !(Rules{rule}).AreRight() {
			t.Errorf("%v is not right", rule)
		}
	}
	for _, rule := range []api.Rule{
		{}, {Kind: 4, From: "a", To: "a", Name: "a"}, {Kind: -1, From: "a", To: "a", Name: "a"}, {From: "a", To: "a", Name: "a"},
		drop(""), drop("a@b"), drop("a/"), drop("a/b/c/d/e/f/g"), {Kind: api.Drop, To: "a", Name: "a"},
		move("", "a"), move("a", ""), move("a/", "b"), move("a", "b@"),
		author("", "A", "a"), author("a", "", "a"), author("a", "A", ""), author("a/b", "A", "a"), author("a", "A-B", "a"), author("a", "A", "a_"), author(strings.Repeat("a", 21), "A", "a"),
	} {
		if (Rules{rule}).AreRight() || (Rules{drop("a"), rule, drop("b")}).AreRight() {
			t.Errorf("%v is right", rule)
		}
	}
	for n := range 20 {
		if got := Rules(slices.Repeat([]api.Rule{drop("a")}, n)).AreRight(); got != (n <= 8) {
			t.Errorf("%d rules are right: %t", n, got)
		}
	}
}

func TestFiles(t *testing.T) {
	list := files.List{{Path: "a", Mode: "100755", Blob: "1"}, {Path: "b/c", Mode: "100644", Blob: "2"}, {Path: "b/d", Mode: "100644", Blob: "3"}}
	kept := slices.Clone(list)
	for _, c := range []struct {
		rules Rules
		want  files.List
	}{
		{nil, list},
		{Rules{author("a", "A", "b")}, list},
		{Rules{drop("b")}, list[:1]},
		{Rules{drop("a"), drop("b/c")}, list[2:]},
		{Rules{move("b", "x/y")}, files.List{list[0], {Path: "x/y/c", Mode: "100644", Blob: "2"}, {Path: "x/y/d", Mode: "100644", Blob: "3"}}},
		{Rules{move("b/d", "x"), move("x", "a")}, files.List{{Path: "a", Mode: "100644", Blob: "3"}, list[1]}},
		{Rules{move("a", "b"), drop("b")}, nil},
		{Rules{move("b", "1/2/3/4/5/6")}, list[:1]},
		{Rules{move("b", "1/2/3/4/5/6"), move("1/2/3/4/5/6", "b")}, list},
	} {
		if got := c.rules.Files(list); !slices.Equal(got, c.want) {
			t.Errorf("by %v: %v, want %v", c.rules, got, c.want)
		}
	}
	if !slices.Equal(list, kept) {
		t.Errorf("the files are now %v", list)
	}
}

func TestAuthor(t *testing.T) {
	a := object.Author{Name: "A", Mail: "a", Time: 7}
	for _, c := range []struct {
		rules Rules
		want  object.Author
	}{
		{nil, a},
		{Rules{author("A", "B", "b"), author("aa", "B", "b"), drop("a"), move("a", "b")}, a},
		{Rules{author("b", "C", "c"), author("a", "B", "b"), author("a", "D", "d"), author("b", "E", "e")}, object.Author{Name: "B", Mail: "b", Time: 7}},
	} {
		if got := c.rules.Author(a); got != c.want {
			t.Errorf("by %v: %v, want %v", c.rules, got, c.want)
		}
	}
}
