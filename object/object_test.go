package object

import (
	"crypto/sha256"
	"encoding/hex"
	"slices"
	"strconv"
	"testing"

	"braid/api"
	"braid/files"
)

// The ids are those that git gives, in a repository with sums of 256 bits.
const (
	noBytes   = "473a0f4c3be8a93681a267e3b1e9a7dcda1185436fe141f7749120a303721813"
	noEntries = "6ef19b41225c5369f1c104d45d8d85efa9b057b53b14b4b9b939dd74decc5321"
	hi        = "a4e13f7dfd8345eae550125113b9d9bcd4b0f781037c02afb133fd98f5f973ae"
)

func hold(t *testing.T, got Object, kind int, word, content string) {
	t.Helper()
	sum := sha256.Sum256([]byte(word + " " + strconv.Itoa(len(content)) + "\x00" + content))
	want := Object{Kind: kind, Content: content, Id: hex.EncodeToString(sum[:])}
	if got != want {
		t.Errorf("got\n%+v\nwant\n%+v", got, want)
	}
}

func raw(t *testing.T, id string) string {
	t.Helper()
	b, err := hex.DecodeString(id)
	if err != nil || len(b) != 32 {
		t.Fatalf("%q is no id", id)
	}
	return string(b)
}

func TestBlob(t *testing.T) {
	if got := NewMaker().Blob("").Id; got != noBytes {
		t.Errorf("the blob without bytes is %s", got)
	}
	if got := NewMaker().Blob("hi").Id; got != hi {
		t.Errorf("the blob hi is %s", got)
	}
	for _, data := range []string{"", "\x00", "\n", "123456789", "1234567890", "\xff\xfe", string(make([]byte, 200))} {
		hold(t, NewMaker().Blob(data), api.Blob, "blob", data)
	}
}

func TestSumOf(t *testing.T) {
	for _, id := range []string{noBytes, noEntries, hi} {
		if got := string(sumOf(id)); got != raw(t, id) {
			t.Errorf("sumOf(%s) = %x", id, got)
		}
	}
}

func TestTreeWithoutEntries(t *testing.T) {
	tree := NewMaker().Tree(nil)
	hold(t, tree.Object, api.Tree, "tree", "")
	if tree.Id != noEntries || len(tree.Within) != 0 {
		t.Errorf("the tree without entries is %s, with %d within", tree.Id, len(tree.Within))
	}
}

// TestTree: a tree's name counts as if `/` stood behind it.
func TestTree(t *testing.T) {
	tree := NewMaker().Tree(files.List{
		{Path: "A", Mode: "100644", Blob: hi},
		{Path: "a-b", Mode: "100644", Blob: noBytes},
		{Path: "a.b/c/d", Mode: "100755", Blob: hi},
		{Path: "a.b/c/e", Mode: "100644", Blob: hi},
		{Path: "a.b/d", Mode: "100644", Blob: noBytes},
		{Path: "a/x", Mode: "100755", Blob: noBytes},
		{Path: "a0", Mode: "100644", Blob: hi},
		{Path: "ab/x", Mode: "100755", Blob: noBytes},
	})
	if len(tree.Within) != 3 || len(tree.Within[0].Within) != 1 {
		t.Fatalf("the trees within: %+v", tree.Within)
	}
	ab, a, last := tree.Within[0], tree.Within[1], tree.Within[2]
	c := ab.Within[0]
	hold(t, c.Object, api.Tree, "tree", "100755 d\x00"+raw(t, hi)+"100644 e\x00"+raw(t, hi))
	hold(t, ab.Object, api.Tree, "tree", "40000 c\x00"+raw(t, c.Id)+"100644 d\x00"+raw(t, noBytes))
	hold(t, a.Object, api.Tree, "tree", "100755 x\x00"+raw(t, noBytes))
	hold(t, last.Object, api.Tree, "tree", a.Content)
	hold(t, tree.Object, api.Tree, "tree", "100644 A\x00"+raw(t, hi)+"100644 a-b\x00"+raw(t, noBytes)+
		"40000 a.b\x00"+raw(t, ab.Id)+"40000 a\x00"+raw(t, a.Id)+"100644 a0\x00"+raw(t, hi)+"40000 ab\x00"+raw(t, last.Id))
}

// TestTreeLeavesFiles: the paths are cut short in copies alone.
func TestTreeLeavesFiles(t *testing.T) {
	list := files.List{{Path: "a/b/c", Mode: "100644", Blob: hi}, {Path: "a/d", Mode: "100644", Blob: hi}}
	NewMaker().Tree(list)
	if list[0].Path != "a/b/c" || list[1].Path != "a/d" {
		t.Errorf("the files are now %v", list)
	}
}

func TestCommit(t *testing.T) {
	tree := NewMaker().Tree(nil)
	author := Author{Name: "A B", Mail: "a@b", Time: 0}
	root := NewMaker().Commit(nil, tree, nil, author, "")
	hold(t, root.Object, api.Commit, "commit", "tree "+noEntries+"\nauthor A B <a@b> 0\n\n")
	author.Time = api.MaxTime
	list := files.List{{Path: "f", Mode: "100644", Blob: hi}}
	tree = NewMaker().Tree(list)
	next := NewMaker().Commit(list, tree, []*Commit{root, root}, author, "\nmore\n\n")
	hold(t, next.Object, api.Commit, "commit", "tree "+tree.Id+"\nparent "+root.Id+"\nparent "+root.Id+"\nauthor A B <a@b> 9999999999\n\n\nmore\n\n")
	if len(next.Files) != 1 || next.Files[0] != list[0] {
		t.Errorf("the commit's files are %v", next.Files)
	}
	if len(root.Parents) != 0 || !slices.Equal(next.Parents, []*Commit{root, root}) || next.Author != author || next.Message != "\nmore\n\n" {
		t.Errorf("the commit was made of %v, %v, %q", next.Parents, next.Author, next.Message)
	}
}

func TestTag(t *testing.T) {
	commit := NewMaker().Commit(nil, NewMaker().Tree(nil), nil, Author{Name: "A", Mail: "a"}, "")
	tag := NewMaker().Tag("v/1", commit, "x\n")
	hold(t, tag.Object, api.Tag, "tag", "object "+commit.Id+"\ntag v/1\n\nx\n")
	if tag.Name != "v/1" || tag.Commit != commit || tag.Message != "x\n" {
		t.Errorf("the tag was made of %s, %v, %q", tag.Name, tag.Commit, tag.Message)
	}
}
