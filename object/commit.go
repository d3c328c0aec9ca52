package object

import (
	"strconv"
	"strings"

	"braid/api"
	"braid/files"
)

// Author is who made a commit, and when.
type Author struct {
	Name, Mail string
	Time       int64
}

func (a Author) line() string {
	return "author " + a.Name + " <" + a.Mail + "> " + strconv.FormatInt(a.Time, 10) + "\n"
}

// Commit is a commit with its files.
type Commit struct {
	Object
	Files files.List
}

// Commit makes a commit of files and of the tree that was made of them.
func (m *Maker) Commit(list files.List, tree *Tree, parents []*Commit, author Author, message string) *Commit {
	var content strings.Builder
	content.WriteString("tree " + tree.Id + "\n")
	for _, p := range parents {
		content.WriteString("parent " + p.Id + "\n")
	}
	content.WriteString(author.line() + "\n" + message)
	return &Commit{Object: m.object(api.Commit, content.String()), Files: list}
}

// Tag is a tag with its name.
type Tag struct {
	Object
	Name string
}

// Tag makes a tag of a commit.
func (m *Maker) Tag(name string, commit *Commit, message string) *Tag {
	content := "object " + commit.Id + "\ntag " + name + "\n\n" + message
	return &Tag{Object: m.object(api.Tag, content), Name: name}
}
