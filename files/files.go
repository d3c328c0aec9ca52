// Package files does changes to the files of a commit.
package files

import (
	"cmp"
	"slices"
	"strings"

	"braid/api"
)

// File is a path with its mode and the id of its blob.
type File struct {
	Path, Mode, Blob string
}

// List is files in the order of their paths, none of them below another. A
// list is never changed: commits share it. What changes it gives a new one.
type List []File

// Put has a file lie at its path.
func (l List) Put(f File) (List, api.Errno) {
	return l.withoutAround(f.Path).with(List{f})
}

// Delete takes away what lies at a path and below it.
func (l List) Delete(path string) List {
	return l.without(func(p string) bool { return IsWithin(p, path) })
}

// Copy has what lies at a path and below it lie at another one too.
func (l List) Copy(from, to string) (List, api.Errno) {
	taken, err := l.taken(from, to)
	if err != api.OK {
		return nil, err
	}
	return l.withoutAround(to).with(taken)
}

// Move is Copy without what lay at the first path. That goes first, so that
// it can't take what was just put there.
func (l List) Move(from, to string) (List, api.Errno) {
	taken, err := l.taken(from, to)
	if err != api.OK {
		return nil, err
	}
	return l.Delete(from).withoutAround(to).with(taken)
}

// Remade has each file lie, as by Put and in their order, at the path that
// goes gives for its own. Those for which it gives none, or one that is too
// long, are left out.
func (l List) Remade(goes func(path string) (string, bool)) List {
	var all List
	for _, f := range l {
		path, ok := goes(f.Path)
		f.Path = path
		if ok && !isTooLong(f) {
			all = all.withoutAround(path).joined(List{f})
		}
	}
	return all
}

// Since tells how a list differs from an earlier one: the files whose paths
// are gone, and those that are new or other ones.
func (l List) Since(before List) (gone, put List) {
	for _, f := range before {
		if !l.has(f.Path) {
			gone = append(gone, f)
		}
	}
	for _, f := range l {
		if !slices.Contains(before, f) {
			put = append(put, f)
		}
	}
	return gone, put
}

func (l List) has(path string) bool {
	return slices.ContainsFunc(l, func(f File) bool { return f.Path == path })
}

// taken gives what lies at a path and below it, as it will lie at the other.
func (l List) taken(from, to string) (List, api.Errno) {
	var all List
	for _, f := range l {
		if IsWithin(f.Path, from) {
			f.Path = to + strings.TrimPrefix(f.Path, from)
			all = append(all, f)
		}
	}
	if len(all) == 0 {
		return nil, api.ErrNone
	}
	if slices.ContainsFunc(all, isTooLong) {
		return nil, api.ErrLimit
	}
	return all, api.OK
}

func isTooLong(f File) bool {
	return len(f.Path) > api.MaxPath || strings.Count(f.Path, "/") >= api.MaxParts
}

// withoutAround leaves out what can't stay if something lies at a path: what
// lies there, below it or above it.
func (l List) withoutAround(path string) List {
	return l.without(func(p string) bool {
		return IsWithin(p, path) || IsWithin(path, p)
	})
}

func (l List) without(gone func(path string) bool) List {
	var rest List
	for _, f := range l {
		if !gone(f.Path) {
			rest = append(rest, f)
		}
	}
	return rest
}

func (l List) with(more List) (List, api.Errno) {
	all := l.joined(more)
	if len(all) > api.MaxFiles {
		return nil, api.ErrLimit
	}
	return all, api.OK
}

func (l List) joined(more List) List {
	all := slices.Concat(l, more)
	slices.SortFunc(all, func(a, b File) int { return cmp.Compare(a.Path, b.Path) })
	return all
}

// IsWithin tells whether a path is another one or lies below it.
func IsWithin(path, top string) bool {
	rest, ok := strings.CutPrefix(path, top)
	return ok && (rest == "" || rest[0] == '/')
}
