package files

import (
	"slices"
	"strconv"
	"strings"
	"testing"

	"braid/api"
)

// list: files of one mode, each with its own path as its blob.
func list(paths ...string) List {
	var l List
	for _, p := range paths {
		l = append(l, File{Path: p, Mode: "100644", Blob: p})
	}
	return l
}

// text tells a list: each path, and behind `=` its blob, if that is another.
func text(l List) string {
	var all []string
	for _, f := range l {
		if f.Blob != f.Path {
			f.Path += "=" + f.Blob
		}
		all = append(all, f.Path)
	}
	return strings.Join(all, " ")
}

func many(n int, head string) List {
	var l List
	for i := range n {
		l = append(l, list(head+strconv.Itoa(i))...)
	}
	slices.SortFunc(l, func(a, b File) int { return strings.Compare(a.Path, b.Path) })
	return l
}

func TestPut(t *testing.T) {
	for _, c := range []struct{ before, path, after string }{
		{"", "a", "a=new"},
		{"a", "a", "a=new"},
		{"a c", "b", "a b=new c"},
		{"a/b a/c d", "a", "a=new d"},
		{"a/b/c a/b/d a/c", "a/b", "a/b=new a/c"},
		{"a d", "a/b/c", "a/b/c=new d"},
		{"a-b a.b a/x a0", "a", "a=new a-b a.b a0"},
		{"a ab", "ab/c", "a ab/c=new"},
		{"ab", "a", "a=new ab"},
		{"a/bc", "a/b", "a/b=new a/bc"},
	} {
		before := list(strings.Fields(c.before)...)
		kept := slices.Clone(before)
		got, err := before.Put(File{Path: c.path, Mode: "100755", Blob: "new"})
		if text(got) != c.after || err != api.OK {
			t.Errorf("%s, then Put %s: %s, %d, want %s", c.before, c.path, text(got), err, c.after)
		}
		i := slices.IndexFunc(got, func(f File) bool { return f.Path == c.path })
		if i < 0 || got[i].Mode != "100755" {
			t.Errorf("Put %s: the mode is not there", c.path)
		}
		if !slices.Equal(before, kept) {
			t.Errorf("Put %s changed the list it was done to", c.path)
		}
	}
}

func TestDelete(t *testing.T) {
	for _, c := range []struct{ before, path, after string }{
		{"", "a", ""},
		{"a", "a", ""},
		{"a", "a/b", "a"},
		{"a/b", "b", "a/b"},
		{"a-b a/b a/c/d a0", "a", "a-b a0"},
		{"a/b a/bc", "a/b", "a/bc"},
	} {
		before := list(strings.Fields(c.before)...)
		kept := slices.Clone(before)
		if got := text(before.Delete(c.path)); got != c.after {
			t.Errorf("%s, then Delete %s: %s, want %s", c.before, c.path, got, c.after)
		}
		if !slices.Equal(before, kept) {
			t.Errorf("Delete %s changed the list it was done to", c.path)
		}
	}
}

func TestCopyAndMove(t *testing.T) {
	for _, c := range []struct{ before, from, to, copied, moved string }{
		{"a", "a", "b", "a b=a", "b=a"},
		{"b", "b", "a", "a=b b", "a=b"},
		{"a", "a", "a", "a", "a"},
		{"a/b a/c", "a", "a", "a/b a/c", "a/b a/c"},
		{"a/b a/c/d", "a", "x/y", "a/b a/c/d x/y/b=a/b x/y/c/d=a/c/d", "x/y/b=a/b x/y/c/d=a/c/d"},
		{"a b/c b/d", "a", "b", "a b=a", "b=a"},
		{"a b", "a", "b/c", "a b/c=a", "b/c=a"},
		{"a", "a", "a/b", "a/b=a", "a/b=a"},
		{"a/b a/c", "a/b", "a", "a=a/b", "a=a/b"},
		{"a/b a/c", "a", "a/b", "a/b/b=a/b a/b/c=a/c a/c", "a/b/b=a/b a/b/c=a/c"},
		{"a/b a/c", "a", "a/d", "a/b a/c a/d/b=a/b a/d/c=a/c", "a/d/b=a/b a/d/c=a/c"},
		{"a/a/a", "a", "a/a", "a/a/a/a=a/a/a", "a/a/a/a=a/a/a"},
		{"a/a/a/a a/a/a/b", "a/a", "a", "a/a/a=a/a/a/a a/a/b=a/a/a/b", "a/a/a=a/a/a/a a/a/b=a/a/a/b"},
		{"a/a a/b", "a/a", "a", "a=a/a", "a=a/a"},
		{"a/b ab/c", "a", "ab", "a/b ab/b=a/b", "ab/b=a/b"},
		{"a-b a/b a0", "a", "a0", "a-b a/b a0/b=a/b", "a-b a0/b=a/b"},
	} {
		before := list(strings.Fields(c.before)...)
		kept := slices.Clone(before)
		if got, err := before.Copy(c.from, c.to); text(got) != c.copied || err != api.OK {
			t.Errorf("%s, then Copy %s %s: %s, %d, want %s", c.before, c.from, c.to, text(got), err, c.copied)
		}
		if got, err := before.Move(c.from, c.to); text(got) != c.moved || err != api.OK {
			t.Errorf("%s, then Move %s %s: %s, %d, want %s", c.before, c.from, c.to, text(got), err, c.moved)
		}
		if !slices.Equal(before, kept) {
			t.Errorf("%s %s changed the list it was done to", c.from, c.to)
		}
	}
}

func holdWrong(t *testing.T, what string, got List, err, want api.Errno) {
	t.Helper()
	if len(got) != 0 || err != want {
		t.Errorf("%s: %d files, %d, want %d", what, len(got), err, want)
	}
}

func TestNothingTaken(t *testing.T) {
	for _, c := range []struct{ before, from, to string }{
		{"", "a", "b"}, {"", "a", "a"}, {"a", "a/b", "c"}, {"ab", "a", "c"}, {"a/b", "b", "c"}, {"a", "b", "a"},
		{"a", "b", "a/b/c/d/e/f"},
	} {
		l := list(strings.Fields(c.before)...)
		got, err := l.Copy(c.from, c.to)
		holdWrong(t, "Copy "+c.from, got, err, api.ErrNone)
		got, err = l.Move(c.from, c.to)
		holdWrong(t, "Move "+c.from, got, err, api.ErrNone)
	}
}

// TestPathTooLong: parts and bytes, at the bounds and one above.
func TestPathTooLong(t *testing.T) {
	part := strings.Repeat("p", 12)
	three := part + "/" + part + "/" + part
	for _, c := range []struct {
		before, from, to string
		want             api.Errno
	}{
		{"a/b", "a", "1/2/3/4/5", api.OK},
		{"a/b", "a", "1/2/3/4/5/6", api.ErrLimit},
		{"a/b/c", "a", "1/2/3/4", api.OK},
		{"a/1 a/b/c a/d", "a", "1/2/3/4/5", api.ErrLimit},
		{"a/b/c/d/e/f", "a/b/c/d/e", "a/b/c/d/e", api.OK},
		{"a/b/c/d/e/f", "a/b/c/d/e", "a/b/c/d/e/f", api.ErrLimit},
		{"a/123456789012/12345678", "a", three, api.OK},
		{"a/123456789012/123456789", "a", three, api.ErrLimit},
		{"a/1 a/123456789012/123456789 a/2", "a", three, api.ErrLimit},
	} {
		l := list(strings.Fields(c.before)...)
		if _, err := l.Copy(c.from, c.to); err != c.want {
			t.Errorf("%s, then Copy %s %s: %d, want %d", c.before, c.from, c.to, err, c.want)
		}
		if _, err := l.Move(c.from, c.to); err != c.want {
			t.Errorf("%s, then Move %s %s: %d, want %d", c.before, c.from, c.to, err, c.want)
		}
	}
}

// TestTooManyFiles: what counts is how many there are behind the change.
func TestTooManyFiles(t *testing.T) {
	f := File{Path: "new", Mode: "100644", Blob: "x"}
	if got, err := many(59, "a").Put(f); len(got) != 60 || err != api.OK {
		t.Errorf("Put to 59: %d files, %d", len(got), err)
	}
	got, err := many(60, "a").Put(f)
	holdWrong(t, "Put to 60", got, err, api.ErrLimit)
	f.Path = "a7"
	if got, err = many(60, "a").Put(f); len(got) != 60 || err != api.OK {
		t.Errorf("Put over one of 60: %d files, %d", len(got), err)
	}
	f.Path = "a"
	if got, err = many(60, "a/").Put(f); len(got) != 1 || err != api.OK {
		t.Errorf("Put above 60: %d files, %d", len(got), err)
	}
	if got, err = many(30, "a/").Copy("a", "b"); len(got) != 60 || err != api.OK {
		t.Errorf("Copy of 30: %d files, %d", len(got), err)
	}
	got, err = many(31, "a/").Copy("a", "b")
	holdWrong(t, "Copy of 31", got, err, api.ErrLimit)
	if got, err = many(60, "a/").Copy("a", "a"); len(got) != 60 || err != api.OK {
		t.Errorf("Copy of 60 onto themselves: %d files, %d", len(got), err)
	}
	if got, err = many(60, "a/").Move("a", "b"); len(got) != 60 || err != api.OK {
		t.Errorf("Move of 60: %d files, %d", len(got), err)
	}
	if got, err = many(60, "a/").Move("a", "a/b"); len(got) != 60 || err != api.OK {
		t.Errorf("Move of 60 below themselves: %d files, %d", len(got), err)
	}
}

// TestRemade: each file goes as by Put, one behind the other.
func TestRemade(t *testing.T) {
	long := strings.Repeat("twelve-bytes/", 4)
	for _, c := range []struct{ before, goes, after string }{
		{"", "", ""},
		{"a b/c", "", "a b/c"},
		{"a b/c d", "a:z b/c:x", "d x=b/c z=a"},
		{"a b c", "b:", "a c"},
		{"a b c", "a: b: c:", ""},
		{"a b", "a:b", "b"},
		{"a b", "b:a", "a=b"},
		{"a b", "a:b b:a", "a=b b=a"},
		{"a b/c b/d", "a:b", "b/c b/d"},
		{"a/c a/d b", "b:a", "a=b"},
		{"a b", "b:a/b/c", "a/b/c=b"},
		{"a b", "a:b/c/d", "b"},
		{"a ab", "ab:a/b", "a/b=ab"},
		{"a b", "a:1/2/3/4/5/6", "1/2/3/4/5/6=a b"},
		{"a b", "a:1/2/3/4/5/6/7", "b"},
		{"a b", "b:a/2/3/4/5/6/7", "a"},
		{"a b", "a:" + long + "12345678", "b " + long + "12345678=a"},
		{"a b", "a:" + long + "123456789", "b"},
	} {
		goes := map[string]string{}
		for _, pair := range strings.Fields(c.goes) {
			from, to, _ := strings.Cut(pair, ":")
			goes[from] = to
		}
		before := list(strings.Fields(c.before)...)
		kept := slices.Clone(before)
		got := before.Remade(func(path string) (string, bool) {
			to, ok := goes[path]
			if !ok {
				return path, true
			}
			return to, to != ""
		})
		if text(got) != c.after {
			t.Errorf("%s, Remade by %s: %s, want %s", c.before, c.goes, text(got), c.after)
		}
		if !slices.Equal(before, kept) {
			t.Errorf("Remade by %s changed the list it was done to", c.goes)
		}
	}
	if got := many(60, "a").Remade(func(path string) (string, bool) { return "b" + path, true }); len(got) != 60 || got[59].Path != "ba9" {
		t.Errorf("Remade of 60: %s", text(got))
	}
}

func TestSince(t *testing.T) {
	for _, c := range []struct{ before, after, gone, put string }{
		{"", "", "", ""},
		{"", "a b", "", "a b"},
		{"a b", "", "a b", ""},
		{"a b", "a b", "", ""},
		{"a b c", "b d e", "a c", "d e"},
		{"a b/c b/d", "a/b b", "a b/c b/d", "a/b b"},
		{"a", "A", "a", "A"},
	} {
		gone, put := list(strings.Fields(c.after)...).Since(list(strings.Fields(c.before)...))
		if text(gone) != c.gone || text(put) != c.put {
			t.Errorf("%s since %s: gone %s, put %s", c.after, c.before, text(gone), text(put))
		}
	}
	before := List{{"a", "100644", "1"}, {"b", "100644", "1"}, {"c", "100644", "1"}}
	after := List{{"a", "100644", "2"}, {"b", "100755", "1"}, {"c", "100644", "1"}}
	if gone, put := after.Since(before); len(gone) != 0 || !slices.Equal(put, after[:2]) {
		t.Errorf("another blob and another mode: gone %v, put %v", gone, put)
	}
}

func TestIsWithin(t *testing.T) {
	for _, c := range []struct {
		path, top string
		want      bool
	}{
		{"a", "a", true}, {"a/b", "a", true}, {"a/b/c", "a/b", true}, {"a", "a/b", false}, {"ab", "a", false}, {"a-b", "a", false}, {"b/a", "a", false}, {"a/bc", "a/b", false},
	} {
		if got := IsWithin(c.path, c.top); got != c.want {
			t.Errorf("IsWithin(%s, %s) = %t", c.path, c.top, got)
		}
	}
}
