package braid_test

import (
	"bytes"
	"slices"
	"strings"
	"sync"
	"testing"

	"braid/api"
	"braid/braid"
)

const (
	hiBlob    = "a4e13f7dfd8345eae550125113b9d9bcd4b0f781037c02afb133fd98f5f973ae"
	noBytes   = "473a0f4c3be8a93681a267e3b1e9a7dcda1185436fe141f7749120a303721813"
	noEntries = "6ef19b41225c5369f1c104d45d8d85efa9b057b53b14b4b9b939dd74decc5321"
	exampleId = "9ae3efa7f58dc0d288df6df759cdcd33c4844b880ee139c20155810505f1ab37"
)

func holdObject(t *testing.T, s *braid.Store, id string, kind int, content string) {
	t.Helper()
	if gotKind, got, err := s.Object(id); gotKind != kind || got != content || err != api.OK {
		t.Errorf("P6: Object(%s) = %d, %q, %d, want %d, %q", id, gotKind, got, err, kind, content)
	}
}

// P6, P7: the document's example.
func TestExampleObjects(t *testing.T) {
	s := braid.New()
	holdImport(t, s, example, 2, api.OK)
	if got := s.Refs(); !slices.Equal(got, []api.Ref{{Name: "main", Id: exampleId}}) || len(s.Tags()) != 0 {
		t.Errorf("P6: the refs are %v, the tags %v", got, s.Tags())
	}
	if got := s.Ids(); len(got) != 4 || !slices.IsSorted(got) {
		t.Errorf("P6: the ids are %v", got)
	}
	holdObject(t, s, hiBlob, api.Blob, "hi")
	list, err := s.Files(exampleId)
	if !slices.Equal(list, []string{"100644 " + hiBlob + " d/f"}) || err != api.OK {
		t.Errorf("P7: Files = %v, %d", list, err)
	}
}

// P6: a blob without bytes, a tree without entries.
func TestEmptyObjects(t *testing.T) {
	s := braid.New()
	taken(t, s, blob(""))
	holdObject(t, s, noBytes, api.Blob, "")
	if len(s.Ids()) != 1 {
		t.Errorf("P6: there are %v", s.Ids())
	}
	taken(t, s, onRef("m", 1)+"\n")
	holdObject(t, s, noEntries, api.Tree, "")
	holdObject(t, s, named(t, s.Refs(), "m"), api.Commit, "tree "+noEntries+"\n"+author+"\n")
	if got := lies(t, s, "m"); got != "" || len(s.Ids()) != 3 {
		t.Errorf("P7: the files are %q, the objects %v", got, s.Ids())
	}
}

// P6: which objects there are: each blob that was ever there, but only the
// trees with which a commit ended.
func TestWhichObjects(t *testing.T) {
	s := braid.New()
	count := func(kind int) int {
		n := 0
		for _, id := range s.Ids() {
			if k, _, _ := s.Object(id); k == kind {
				n++
			}
		}
		return n
	}
	hold := func(what string, blobs, trees, commits, tags int) {
		t.Helper()
		got := []int{count(api.Blob), count(api.Tree), count(api.Commit), count(api.Tag)}
		if want := []int{blobs, trees, commits, tags}; !slices.Equal(got, want) {
			t.Errorf("P6: %s: %v, want %v", what, got, want)
		}
	}
	taken(t, s, onRef("m", 1)+inline("a/b", "1")+inline("a/b", "2")+"D a\n"+inline("c", "3")+"\n")
	hold("blobs that later changes take away", 3, 1, 1, 0)
	taken(t, s, marked(1, "4")+marked(2, "4")+marked(3, "3"))
	hold("blobs that no commit has", 4, 1, 1, 0)
	taken(t, s, onRef("m", 1)+inline("x/y/z", "1")+"C x/y v\n\n")
	hold("trees within trees, the same ones once", 4, 4, 2, 0)
	taken(t, s, onRef("n", 1)+"from m\n\n"+onRef("o", 2)+"from m\n\n")
	hold("the same commit on two refs", 4, 4, 3, 0)
	taken(t, s, "tag v\nfrom m\n"+empty+"tag v\nfrom n\n"+empty+"tag w\nfrom n\n"+empty+"tag v\nfrom m\n"+empty)
	hold("tags that were set anew", 4, 4, 3, 3)
	taken(t, s, "reset m\n\nreset n\n\nreset o\n\n")
	hold("what has no name any more", 4, 4, 3, 3)
	holdImport(t, s, onRef("m", 1)+inline("new", "new")+"\ntag v\nfrom m\n"+empty+"reset x\nfrom none\n\ndone\n", 3, api.ErrMark)
	hold("what was refused", 4, 4, 3, 3)
}

// P6: names in order, byte by byte.
func TestOrderOfNames(t *testing.T) {
	s := braid.New()
	names := []string{"a/b", "a-b", "ab", "a", "b", "0", "a0", "-", "z/z"}
	commands := ""
	for i, name := range names {
		commands += onRef(name, i+1) + "\n" + "tag " + name + "\nfrom " + name + "\n" + empty
	}
	taken(t, s, commands)
	slices.Sort(names)
	for _, refs := range [][]api.Ref{s.Refs(), s.Tags()} {
		var got []string
		for _, r := range refs {
			got = append(got, r.Name)
		}
		if !slices.Equal(got, names) {
			t.Errorf("P6: the names are %v, want %v", got, names)
		}
	}
	if !slices.IsSorted(s.Ids()) {
		t.Error("P6: the ids are not in order")
	}
}

// P7: files in the order of their paths, each with its mode.
func TestOrderOfFiles(t *testing.T) {
	s := braid.New()
	taken(t, s, onRef("m", 1)+"M 100755 inline a/x\n"+empty+inline("a0", "")+inline("a.b/c", "")+inline("a-b", "")+inline("Z", "")+inline("_", "hi")+"\n")
	want := []string{
		"100644 " + noBytes + " Z", "100644 " + hiBlob + " _", "100644 " + noBytes + " a-b", "100644 " + noBytes + " a.b/c",
		"100755 " + noBytes + " a/x", "100644 " + noBytes + " a0",
	}
	if got, err := s.Files(named(t, s.Refs(), "m")); !slices.Equal(got, want) || err != api.OK {
		t.Errorf("P7: Files = %q, %d, want %q", got, err, want)
	}
}

// P6, P7: ids of nothing, and of no commit.
func TestNoObject(t *testing.T) {
	s := braid.New()
	taken(t, s, strings.TrimSuffix(example, "done\n")+"tag v\nfrom main\n"+empty)
	for _, id := range []string{
		"", "main", "v", hiBlob[:63], hiBlob + "0", strings.ToUpper(hiBlob), " " + hiBlob, strings.Repeat("0", 64), noBytes, exampleId + "\n",
	} {
		if kind, content, err := s.Object(id); kind != 0 || content != "" || err != api.ErrNone {
			t.Errorf("P6: Object(%q) = %d, %q, %d", id, kind, content, err)
		}
		if list, err := s.Files(id); len(list) != 0 || err != api.ErrNone {
			t.Errorf("P7: Files(%q) = %v, %d", id, list, err)
		}
	}
	for _, id := range s.Ids() {
		kind, _, _ := s.Object(id)
		if list, err := s.Files(id); kind != api.Commit && (len(list) != 0 || err != api.ErrNone) {
			t.Errorf("P7: Files of an object of the kind %d = %v, %d", kind, list, err)
		}
	}
	if kind, _, err := braid.New().Object(hiBlob); kind != 0 || err != api.ErrNone {
		t.Errorf("P6: an empty store has an object")
	}
}

// spoil writes over a list and its spare room.
func spoil[T any](list []T, with T) {
	list = list[:cap(list)]
	for i := range list {
		list[i] = with
	}
}

// P2: answers are new memory.
func TestAnswersAreNew(t *testing.T) {
	s := braid.New()
	taken(t, s, onRef("m", 1)+inline("a", "1")+inline("b/c", "2")+inline("d", "3")+"\n"+onRef("n", 2)+"\n"+onRef("o", 3)+"\ntag v\nfrom m\n"+empty+"tag w\nfrom m\n"+empty+"tag x\nfrom m\n"+empty)
	before := tell(s)
	spoil(s.Refs(), api.Ref{})
	spoil(s.Tags(), api.Ref{})
	spoil(s.Ids(), "")
	list, _ := s.Files(named(t, s.Refs(), "m"))
	spoil(list, "")
	if !same(before, tell(s)) {
		t.Error("P2: what was done to answers has changed the store")
	}
	refs := s.Refs()
	taken(t, s, "reset m\n\nreset a\nfrom n\n\n")
	if !slices.Equal(refs, before.refs) {
		t.Error("P2: a later call has changed an answer")
	}
}

// P2: stores do not hang on each other, also side by side.
func TestStoresSideBySide(t *testing.T) {
	first := braid.New()
	for _, stream := range seeds() {
		first.Import(stream)
	}
	want := momentOf(first)
	var wait sync.WaitGroup
	for range 8 {
		wait.Add(1)
		go func() {
			defer wait.Done()
			s := braid.New()
			for _, stream := range seeds() {
				s.Import(stream)
			}
			if !same(tell(s), want.told) || !bytes.Equal(s.Bytes(), want.bytes) {
				t.Error("P2: the same streams made another store")
			}
		}()
	}
	wait.Wait()
}

// P2: a text that is handed in is not kept. (It is a piece of bytes that are
// overwritten behind the call.)
func TestTextsAreNotKept(t *testing.T) {
	commands := marked(1, "data") + onRef("some/ref", 2) + "M 100755 :1 d/path\n" + inline("other", "more") + "R other moved\nC d/path copied\n\n" + "tag a-tag\nfrom :2\n" + data("message") + "done\n"
	s, other := braid.New(), braid.New()
	holdImport(t, s, commands, 3, api.OK)
	room := []byte(commands)
	if n, err := other.Import(asText(room)); n != 3 || err != api.OK {
		t.Fatalf("P4: Import = %d, %d", n, err)
	}
	spoil(room, '#')
	if !same(tell(s), tell(other)) || !bytes.Equal(s.Bytes(), other.Bytes()) {
		t.Errorf("P2: the stream was kept: %v", tell(other))
	}
}
