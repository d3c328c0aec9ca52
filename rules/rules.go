// Package rules changes the files and authors of commits that go out.
package rules

import (
	"strings"

	"braid/api"
	"braid/files"
	"braid/object"
	"braid/words"
)

// Rules are gone through in their order.
type Rules []api.Rule

// AreRight tells whether there are not too many, and each is one.
func (r Rules) AreRight() bool {
	if len(r) > api.MaxRules {
		return false
	}
	for _, rule := range r {
		if !isRight(rule) {
			return false
		}
	}
	return true
}

// isRight asks only for what the rule's kind makes use of.
func isRight(rule api.Rule) bool {
	switch rule.Kind {
	case api.Drop:
		return words.IsPath(rule.From)
	case api.Move:
		return words.IsPath(rule.From) && words.IsPath(rule.To)
	case api.Author:
		return words.IsMail(rule.From) && words.IsMail(rule.To) && words.IsName(rule.Name)
	}
	return false
}

// Files gives a commit's files as they go out.
func (r Rules) Files(list files.List) files.List {
	return list.Remade(r.path)
}

// path gives the path at which a file goes out. It is not ok if the file is
// left out. What it comes to on the way may be too long: only the end counts.
func (r Rules) path(path string) (string, bool) {
	for _, rule := range r {
		within := files.IsWithin(path, rule.From)
		if within && rule.Kind == api.Drop {
			return "", false
		}
		if within && rule.Kind == api.Move {
			path = rule.To + strings.TrimPrefix(path, rule.From)
		}
	}
	return path, true
}

// Author gives a commit's author as it goes out.
func (r Rules) Author(author object.Author) object.Author {
	for _, rule := range r {
		if rule.Kind == api.Author && rule.From == author.Mail {
			author.Name = rule.Name
			author.Mail = rule.To
			return author
		}
	}
	return author
}
