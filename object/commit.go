package object

import (
	"strconv"
	"strings"

	"braid/api"
	"braid/files"
)

// Author is who made a commit, and when.
type Author struct {
	Name, Mail string
	Time       int64
}

// Line is how an author is written, in a commit's content and in a stream.
func (a Author) Line() string {
	return "author " + a.Name + " <" + a.Mail + "> " + strconv.FormatInt(a.Time, 10) + "\n"
}

// Commit is a commit with its files, and what it was made of.
type Commit struct {
	Object
	Files   files.List
	Parents []*Commit
	Author  Author
	Message string
}

// Commit makes a commit of files and of the tree that was made of them.
func (m *Maker) Commit(list files.List, tree *Tree, parents []*Commit, author Author, message string) *Commit {
	var content strings.Builder
	content.WriteString("tree " + tree.Id + "\n")
	for _, p := range parents {
		content.WriteString("parent " + p.Id + "\n")
	}
	content.WriteString(author.Line() + "\n" + message)
	return &Commit{
		Object:  m.object(api.Commit, content.String()),
		Files:   list,
		Parents: parents,
		Author:  author,
		Message: message,
	}
}

// Tag is a tag with its name, and what it was made of.
type Tag struct {
	Object
	Name    string
	Commit  *Commit
	Message string
}

// Tag makes a tag of a commit.
func (m *Maker) Tag(name string, commit *Commit, message string) *Tag {
	content := "object " + commit.Id + "\ntag " + name + "\n\n" + message
	return &Tag{
		Object:  m.object(api.Tag, content),
		Name:    name,
		Commit:  commit,
		Message: message,
	}
}
