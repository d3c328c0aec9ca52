package object

import (
	"strings"

	"braid/api"
	"braid/files"
)

const treeMode = "40000"

// Tree is a tree with the trees that are its entries.
type Tree struct {
	Object
	Within []*Tree
}

// Tree makes the tree of files, and all trees within it. The order of
// paths is that of the entries already: where names are alike up to a tree's
// end, a `/` stands behind it there too.
func (m *Maker) Tree(list files.List) *Tree {
	t := &Tree{}
	var content strings.Builder
	for len(list) > 0 {
		f := list[0]
		name, _, isTree := strings.Cut(f.Path, "/")
		if !isTree {
			writeEntry(&content, f.Mode, name, f.Blob)
			list = list[1:]
			continue
		}
		inside := below(list, name+"/")
		within := m.Tree(inside)
		writeEntry(&content, treeMode, name, within.Id)
		t.Within = append(t.Within, within)
		list = list[len(inside):]
	}
	t.Object = m.object(api.Tree, content.String())
	return t
}

// below gives the files at the list's beginning whose paths begin with a head,
// without that head.
func below(list files.List, head string) files.List {
	var all files.List
	for _, f := range list {
		rest, ok := strings.CutPrefix(f.Path, head)
		if !ok {
			break
		}
		f.Path = rest
		all = append(all, f)
	}
	return all
}

func writeEntry(content *strings.Builder, mode, name, id string) {
	content.WriteString(mode + " " + name + "\x00")
	content.Write(sumOf(id))
}
