package braid_test

import (
	"math/rand"
	"slices"
	"strconv"
	"strings"
	"testing"

	"braid/api"
	"braid/braid"
)

// onRef: the head of a commit.
func onRef(ref string, mark int) string {
	return "commit " + ref + "\nmark :" + strconv.Itoa(mark) + "\n" + author + empty
}

func marked(mark int, text string) string {
	return "blob\nmark :" + strconv.Itoa(mark) + "\n" + data(text)
}

func inline(path, text string) string { return "M 100644 inline " + path + "\n" + data(text) }

// told: all that a store tells.
type told struct {
	refs, tags []api.Ref
	ids, files []string
}

func tell(s *braid.Store) told {
	all := told{refs: s.Refs(), tags: s.Tags(), ids: s.Ids()}
	for _, id := range all.ids {
		kind, content, _ := s.Object(id)
		list, err := s.Files(id)
		all.files = append(all.files, strconv.Itoa(kind)+content+strconv.Itoa(int(err))+strings.Join(list, "\n"))
	}
	return all
}

func same(a, b told) bool {
	return slices.Equal(a.refs, b.refs) && slices.Equal(a.tags, b.tags) && slices.Equal(a.ids, b.ids) && slices.Equal(a.files, b.files)
}

func holdImport(t *testing.T, s *braid.Store, stream string, n int, err api.Errno) {
	t.Helper()
	before := tell(s)
	if gotN, gotErr := s.Import(stream); gotN != n || gotErr != err {
		t.Errorf("P4: Import(%.300q) = %d, %d, want %d, %d", stream, gotN, gotErr, n, err)
	}
	if err != api.OK && !same(before, tell(s)) {
		t.Errorf("P4: Import(%.300q) was refused, but has changed the store", stream)
	}
}

// taken: commands (without their done) that a store takes.
func taken(t *testing.T, s *braid.Store, commands string) {
	t.Helper()
	if n, err := s.Import(commands + "done\n"); err != api.OK {
		t.Fatalf("P4: Import(%.300q) = %d, %d", commands, n, err)
	}
}

func named(t *testing.T, refs []api.Ref, name string) string {
	t.Helper()
	i := slices.IndexFunc(refs, func(r api.Ref) bool { return r.Name == name })
	if i < 0 {
		t.Fatalf("P6: there is no %s in %v", name, refs)
	}
	return refs[i].Id
}

// lies: the paths of a ref's commit, each with what is in it.
func lies(t *testing.T, s *braid.Store, ref string) string {
	t.Helper()
	list, err := s.Files(named(t, s.Refs(), ref))
	if err != api.OK {
		t.Fatalf("P7: Files of %s: %d", ref, err)
	}
	var all []string
	for _, line := range list {
		fields := strings.Split(line, " ")
		_, content, _ := s.Object(fields[1])
		all = append(all, fields[2]+"="+content)
	}
	return strings.Join(all, " ")
}

func parentsOf(t *testing.T, s *braid.Store, ref string) []string {
	t.Helper()
	_, content, _ := s.Object(named(t, s.Refs(), ref))
	head, _, _ := strings.Cut(content, "\n\n")
	var all []string
	for _, line := range strings.Split(head, "\n") {
		if id, ok := strings.CutPrefix(line, "parent "); ok {
			all = append(all, id)
		}
	}
	return all
}

// P4: a new store has nothing, and shares nothing with another one.
func TestNew(t *testing.T) {
	s := braid.New()
	taken(t, s, blob("x"))
	other := braid.New()
	if len(other.Refs())+len(other.Tags())+len(other.Ids()) != 0 {
		t.Error("P4: a new store is not empty")
	}
	if len(s.Ids()) != 1 {
		t.Errorf("P4: a store has %d objects, want 1", len(s.Ids()))
	}
}

// P4: an error and a number as Check.
func TestImportAsCheck(t *testing.T) {
	s := braid.New()
	taken(t, s, onRef("m", 1)+inline("a", "1")+"\n")
	many := strings.Repeat(reset, 61)
	for _, stream := range []string{
		"", "x", "done", "done\nx", reset, reset + "x\ndone\n", many, many + "done\n", many + "x", filled(8001), strings.Repeat("x", 8001),
		head + "D a/\n\ndone\n", blob("x") + blob("x") + "reset x\nfrom none\n\nx", onRef("m", 1) + "D a\n\n",
	} {
		n, err := braid.Check(stream)
		if err == api.OK {
			t.Fatalf("P3: Check(%.40q) is OK", stream)
		}
		holdImport(t, s, stream, n, err)
	}
	holdImport(t, s, "done\n", 0, api.OK)
	holdImport(t, s, strings.Repeat(reset, 60)+"done\n", 60, api.OK)
}

// P1, P4: streams with faults anywhere: what Check refuses is refused so, and
// what is refused changes nothing.
func TestImportMutated(t *testing.T) {
	r := rand.New(rand.NewSource(1))
	commands := strings.TrimSuffix(example, "done\n")
	seed := commands + "tag v\nfrom :2\n" + data("x") + onRef("n", 3) + "from main\nmerge :2\n" + inline("a/b", "1") + "M 100755 :1 c\nC d e\nR a/b d/f/g\nD c\n\nreset x\nfrom n\n\nreset main\n\ndone\n"
	answers := map[api.Errno]int{}
	for range 3000 {
		s := braid.New()
		taken(t, s, commands)
		stream := mutate(r, seed)
		before := tell(s)
		n, err := s.Import(stream)
		if err != api.OK && !same(before, tell(s)) {
			t.Errorf("P4: Import(%q) was refused, but has changed the store", stream)
		}
		count, form := braid.Check(stream)
		if form != api.OK && (n != count || err != form) || form == api.OK && (err == api.ErrForm || err == api.OK && n != count || n > count || n < 0) {
			t.Errorf("P4: Import(%q) = %d, %d, but Check = %d, %d", stream, n, err, count, form)
		}
		answers[err]++
	}
	if answers[api.OK] < 100 || answers[api.ErrForm] < 100 || answers[api.ErrMark] < 20 || answers[api.ErrNone] < 20 {
		t.Errorf("the streams are too much alike: %v", answers)
	}
}

// P4: marks and refs that are not there, or of the wrong kind.
func TestErrMark(t *testing.T) {
	s := braid.New()
	taken(t, s, onRef("m", 1)+inline("a", "1")+"\n"+"tag v\nfrom m\n"+empty)
	for _, which := range []string{":1", "none", "v"} {
		for _, command := range []string{
			"reset x\nfrom " + which + "\n\n", "reset m\nfrom " + which + "\n\n", "tag x\nfrom " + which + "\n" + empty,
			onRef("m", 1) + "from " + which + "\n\n", onRef("m", 1) + "merge " + which + "\n\n",
			onRef("m", 1) + "from m\nmerge m\nmerge m\nmerge " + which + "\n\n",
		} {
			holdImport(t, s, command+"done\n", 1, api.ErrMark)
			holdImport(t, s, marked(2, "x")+reset+command+"done\n", 3, api.ErrMark)
		}
	}
	for _, command := range []string{
		"reset x\nfrom :1\n\n", "tag x\nfrom :1\n" + empty, onRef("m", 2) + "from :1\n\n", onRef("m", 2) + "from m\nmerge :1\n\n",
	} {
		holdImport(t, s, marked(1, "a")+command+"done\n", 2, api.ErrMark)
	}
	holdImport(t, s, onRef("m", 1)+"M 100644 :1 b\n\ndone\n", 1, api.ErrMark)
	holdImport(t, s, onRef("m", 1)+"\n"+onRef("m", 2)+"M 100755 :1 b\n\ndone\n", 2, api.ErrMark)
	holdImport(t, s, "reset m\n\nreset x\nfrom m\n\ndone\n", 2, api.ErrMark)
	holdImport(t, s, "reset m\n\n"+onRef("x", 1)+"merge m\n\ndone\n", 2, api.ErrMark)
	holdImport(t, s, "reset x\nfrom x\n\ndone\n", 1, api.ErrMark)
	holdImport(t, s, onRef("x", 1)+"from x\n\ndone\n", 1, api.ErrMark)
}

// P4: a mark names its object from the next command on.
func TestMarkFromNextCommandOn(t *testing.T) {
	s := braid.New()
	holdImport(t, s, onRef("m", 1)+"from :1\n\ndone\n", 1, api.ErrMark)
	holdImport(t, s, onRef("m", 1)+"merge :1\n\ndone\n", 1, api.ErrMark)
	holdImport(t, s, "reset x\nfrom :1\n\n"+onRef("m", 1)+"\ndone\n", 1, api.ErrMark)
	holdImport(t, s, onRef("m", 999)+"\nreset x\nfrom :999\n\n"+onRef("m", 2)+"from :999\nmerge :999\n\ndone\n", 3, api.OK)
}

// P5: marks are known within their stream alone.
func TestMarksOfStreams(t *testing.T) {
	s := braid.New()
	stream := marked(1, "x") + onRef("m", 2) + "M 100644 :1 a\n\n" + "done\n"
	holdImport(t, s, stream, 2, api.OK)
	holdImport(t, s, "reset x\nfrom :2\n\ndone\n", 1, api.ErrMark)
	holdImport(t, s, onRef("m", 3)+"M 100644 :1 b\n\ndone\n", 1, api.ErrMark)
	holdImport(t, s, stream, 2, api.OK)
	holdImport(t, s, marked(3, "x")+reset+"reset x\nfrom none\n\ndone\n", 3, api.ErrMark)
	holdImport(t, s, marked(3, "y")+"done\n", 1, api.OK)
}

func TestErrTwice(t *testing.T) {
	s := braid.New()
	taken(t, s, onRef("m", 1)+"\n")
	for _, first := range []string{marked(7, "a"), onRef("x", 7) + "\n"} {
		holdImport(t, s, first+marked(7, "a")+"done\n", 2, api.ErrTwice)
		holdImport(t, s, first+marked(8, "a")+marked(7, "b")+"done\n", 3, api.ErrTwice)
		holdImport(t, s, first+onRef("m", 7)+"\ndone\n", 2, api.ErrTwice)
		holdImport(t, s, first+marked(70, "a")+onRef("m", 77)+"\ndone\n", 3, api.OK)
	}
}

// P4: nothing at or below a path that C or R takes.
func TestErrNone(t *testing.T) {
	s := braid.New()
	taken(t, s, onRef("m", 1)+inline("a/b", "1")+"\n")
	for _, change := range []string{"C b x\n", "R b x\n", "C a/b/c x\n", "R a/b/c x\n", "C aa x\n", "R a/bb x\n", "D a\nC a x\n", "deleteall\nR a/b x\n", "R a x\nC a y\n", "C b b\n", "R b b\n"} {
		holdImport(t, s, onRef("m", 1)+change+"\ndone\n", 1, api.ErrNone)
	}
	holdImport(t, s, onRef("new", 1)+"C a/b x\n\ndone\n", 1, api.ErrNone)
	holdImport(t, s, onRef("new", 1)+"merge m\nC a/b x\n\ndone\n", 1, api.ErrNone)
	holdImport(t, s, onRef("new", 1)+"from m\nD b\nC a/b x\n\ndone\n", 1, api.OK)
}

// P4: bounds of paths and files.
func TestErrLimit(t *testing.T) {
	s := braid.New()
	part := strings.Repeat("p", 12)
	four := part + "/" + part + "/" + part + "/" + part
	for _, c := range []struct {
		from, to string
		err      api.Errno
	}{
		{"a/1", "a/b/c/d/e", api.OK}, {"a/1", "a/b/c/d/e/f", api.ErrLimit},
		{"a/b/c/d/e/f", part, api.OK}, {"a/b/c/d/e/f", "x/y", api.ErrLimit},
		{"a/" + "12345678", four[:51], api.OK}, {"a/" + "123456789", four[:51], api.ErrLimit},
	} {
		for _, word := range []string{"C", "R"} {
			n := 1
			put := onRef("new", 1) + inline(c.from, "") + word + " a " + c.to + "\n\nreset new\n\n"
			if c.err == api.OK {
				n = 2
			}
			holdImport(t, s, put+"done\n", n, c.err)
		}
	}
	many := func(n int) string {
		all := ""
		for i := range n {
			all += inline("n/"+strconv.Itoa(i), "")
		}
		return all
	}
	taken(t, s, onRef("m", 1)+many(30)+"\n")
	holdImport(t, s, onRef("m", 1)+"C n o\n"+inline("x", "")+"D x\n\ndone\n", 1, api.ErrLimit)
	holdImport(t, s, onRef("m", 1)+inline("n/30", "")+"C n o\n\ndone\n", 1, api.ErrLimit)
	holdImport(t, s, onRef("m", 1)+"C n o\n"+inline("o/7", "y")+"R n p\n\ndone\n", 1, api.OK)
	holdImport(t, s, onRef("m", 1)+inline("p/7/x", "y")+inline("q", "")+"\ndone\n", 1, api.ErrLimit)
	holdImport(t, s, onRef("m", 1)+inline("p/7/x", "y")+"C o o\nR o o\nR o q\nC p p\n\ndone\n", 1, api.OK)
	holdImport(t, s, onRef("m", 1)+"C p/1 r\n\ndone\n", 1, api.ErrLimit)
	holdImport(t, s, onRef("m", 1)+"C p/1 p\n\ndone\n", 1, api.OK)
}

// P4: of several errors the one that comes first in the command, line by line.
func TestFirstError(t *testing.T) {
	s := braid.New()
	taken(t, s, onRef("m", 1)+inline("a", "1")+"\n")
	twice := marked(1, "x") + onRef("m", 1)
	bad := "from none\n"
	worse := "merge none\n"
	long := "C a a/b/c/d/e/f\nC a/b a/b/c/d/e/f\n"
	for _, c := range []struct {
		commands string
		n        int
		err      api.Errno
	}{
		{twice + bad + "C no x\n\n", 2, api.ErrTwice},
		{twice + worse + "\n", 2, api.ErrTwice},
		{twice + "M 100644 :9 x\n\n", 2, api.ErrTwice},
		{twice + "C no x\n\n", 2, api.ErrTwice},
		{onRef("m", 1) + bad + "C no x\n\n", 1, api.ErrMark},
		{onRef("m", 1) + worse + "C no x\n\n", 1, api.ErrMark},
		{onRef("m", 1) + "C no x\nM 100644 :9 x\n\n", 1, api.ErrNone},
		{onRef("m", 1) + "M 100644 :9 x\nC no x\n\n", 1, api.ErrMark},
		{onRef("m", 1) + long + "C no x\n\n", 1, api.ErrLimit},
		{onRef("m", 1) + "R no x\n" + long + "\n", 1, api.ErrNone},
		{onRef("m", 1) + long + "M 100644 :9 x\n\n", 1, api.ErrLimit},
		{onRef("m", 1) + "C no x\n\n" + twice + "\n", 1, api.ErrNone},
		{reset + onRef("m", 1) + "C a/b a/b/c/d/e/f\n\n", 2, api.ErrNone},
	} {
		holdImport(t, s, c.commands+"done\n", c.n, c.err)
	}
	taken(t, s, marked(1, "x")+onRef("n", 2)+sixty()+"\n")
	holdImport(t, s, onRef("n", 1)+"M 100644 :9 new\n\ndone\n", 1, api.ErrMark)
	holdImport(t, s, onRef("n", 1)+"C no new\n\ndone\n", 1, api.ErrNone)
	holdImport(t, s, onRef("n", 1)+"M 100644 inline new\n"+empty+"M 100644 :9 x\n\ndone\n", 1, api.ErrLimit)
}

// sixty: as many files as there may be, with the blob :1.
func sixty() string {
	all := ""
	for i := range 15 {
		all += "M 100644 :1 d/" + strconv.Itoa(i) + "\n"
	}
	return all + "C d e\nC d f\nC d g\n"
}

// P4: which parents a commit has, and with which files it begins.
func TestParents(t *testing.T) {
	s := braid.New()
	taken(t, s, onRef("m", 1)+inline("a", "1")+"\n")
	m := named(t, s.Refs(), "m")
	if got := parentsOf(t, s, "m"); len(got) != 0 {
		t.Errorf("P4: the first commit has parents: %v", got)
	}
	taken(t, s, onRef("n", 1)+"from m\n"+inline("b", "2")+"\n")
	n := named(t, s.Refs(), "n")
	for _, c := range []struct {
		name, ref, which string
		parents          []string
		files            string
	}{
		{"the ref's commit", "n", "", []string{n}, "a=1 b=2 x="},
		{"from, not the ref's", "n", "from m\n", []string{m}, "a=1 x="},
		{"the ref's and a merge", "m", "merge n\n", []string{m, n}, "a=1 x="},
		{"from and merges, in order", "new", "from n\nmerge m\nmerge n\nmerge m\n", []string{n, m, n, m}, "a=1 b=2 x="},
		{"a merge alone begins without files", "new", "merge n\n", []string{n}, "x="},
		{"merges alone", "new", "merge n\nmerge m\nmerge m\n", []string{n, m, m}, "x="},
		{"nothing", "new", "", nil, "x="},
	} {
		taken(t, s, onRef(c.ref, 1)+c.which+inline("x", "")+"\n")
		if got := parentsOf(t, s, c.ref); !slices.Equal(got, c.parents) {
			t.Errorf("P4: %s: the parents are %v, want %v", c.name, got, c.parents)
		}
		if got := lies(t, s, c.ref); got != c.files {
			t.Errorf("P4: %s: the files are %s, want %s", c.name, got, c.files)
		}
		taken(t, s, "reset new\n\nreset m\n\nreset n\n\n")
		taken(t, s, onRef("m", 1)+inline("a", "1")+"\n"+onRef("n", 2)+"from m\n"+inline("b", "2")+"\n")
		if named(t, s.Refs(), "m") != m || named(t, s.Refs(), "n") != n {
			t.Fatal("P12: the same commits have other ids")
		}
	}
}

// P4: what refs and tags name.
func TestResetAndTag(t *testing.T) {
	s := braid.New()
	taken(t, s, onRef("m", 1)+inline("a", "1")+"\n"+onRef("m", 2)+"D a\n\nreset old\nfrom :1\n\n")
	m, old := named(t, s.Refs(), "m"), named(t, s.Refs(), "old")
	if got := parentsOf(t, s, "m"); !slices.Equal(got, []string{old}) {
		t.Errorf("P4: the parents of m are %v, want %s", got, old)
	}
	taken(t, s, "tag m\nfrom old\n"+empty+"tag v\nfrom m\n"+data("x\n")+"reset m\nfrom old\n\nreset old\nfrom old\n\nreset none\n\n")
	if got := s.Refs(); !slices.Equal(got, []api.Ref{{Name: "m", Id: old}, {Name: "old", Id: old}}) {
		t.Errorf("P6: the refs are %v", got)
	}
	_, content, _ := s.Object(named(t, s.Tags(), "v"))
	if content != "object "+m+"\ntag v\n\nx\n" {
		t.Errorf("P4: the tag is %q", content)
	}
	_, content, _ = s.Object(named(t, s.Tags(), "m"))
	if content != "object "+old+"\ntag m\n\n" {
		t.Errorf("P4: the tag is %q", content)
	}
	taken(t, s, "reset m\n\nreset old\n\n")
	if len(s.Refs()) != 0 || len(s.Tags()) != 2 {
		t.Errorf("P4: there are %v and %v", s.Refs(), s.Tags())
	}
	if list, err := s.Files(old); len(list) != 1 || err != api.OK {
		t.Errorf("P7: Files of a commit without a name = %v, %d", list, err)
	}
	taken(t, s, onRef("m", 1)+"\n"+"tag v\nfrom m\n"+empty)
	if got := parentsOf(t, s, "m"); len(got) != 0 {
		t.Errorf("P4: a commit on a ref that is no more has the parents %v", got)
	}
	if named(t, s.Tags(), "v") == m || len(s.Tags()) != 2 {
		t.Errorf("P4: the tag was not set anew: %v", s.Tags())
	}
}
