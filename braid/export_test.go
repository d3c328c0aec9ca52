package braid_test

import (
	"fmt"
	"math/rand"
	"regexp"
	"slices"
	"strconv"
	"strings"
	"testing"

	"braid/api"
	"braid/braid"
)

func drop(from string) api.Rule { return api.Rule{Kind: api.Drop, From: from} }

func move(from, to string) api.Rule { return api.Rule{Kind: api.Move, From: from, To: to} }

func rename(from, name, to string) api.Rule {
	return api.Rule{Kind: api.Author, From: from, To: to, Name: name}
}

func holdExport(t *testing.T, s *braid.Store, want string, wantErr api.Errno, rules ...api.Rule) {
	t.Helper()
	before := momentOf(s)
	if got, err := s.Export(rules...); got != want || err != wantErr {
		t.Errorf("P10, P11: Export(%v) = %d\n%s\nwant %d\n%s", rules, err, got, wantErr, want)
	}
	if after := momentOf(s); !same(before.told, after.told) || !slices.Equal(before.bytes, after.bytes) {
		t.Errorf("P1: Export(%v) has changed the store", rules)
	}
}

// goesOut: commands that go out, and, without rules, come in again as the
// same.
func goesOut(t *testing.T, s *braid.Store, commands string, rules ...api.Rule) {
	t.Helper()
	stream := commands + "done\n"
	holdExport(t, s, stream, api.OK, rules...)
	x := braid.New()
	taken(t, x, commands)
	if len(rules) > 0 {
		return
	}
	if !slices.Equal(x.Refs(), s.Refs()) || !slices.Equal(x.Tags(), s.Tags()) {
		t.Errorf("P12: what has gone out comes in as\n%v\n%v\nwant\n%v\n%v", x.Refs(), x.Tags(), s.Refs(), s.Tags())
	}
	holdExport(t, x, stream, api.OK)
}

// holdPaths: those of main's files that go out.
func holdPaths(t *testing.T, s *braid.Store, want string, rules ...api.Rule) {
	t.Helper()
	stream, err := s.Export(rules...)
	x := braid.New()
	if _, inErr := x.Import(stream); inErr != api.OK || err != api.OK {
		t.Errorf("P11: Export(%v) = %d, Import of it: %d", rules, err, inErr)
		return
	}
	if got := lies(t, x, "main"); got != want {
		t.Errorf("P11: by %v the files are\n%s, want\n%s", rules, got, want)
	}
}

// stored: a store that took commands.
func stored(t *testing.T, commands ...string) *braid.Store {
	t.Helper()
	s := braid.New()
	for _, c := range commands {
		taken(t, s, c)
	}
	return s
}

// having: a store with files in main, each with its own path as data.
func having(t *testing.T, paths ...string) *braid.Store {
	t.Helper()
	text := onRef("main", 1)
	for _, path := range paths {
		text += inline(path, path)
	}
	return stored(t, text+"\n")
}

// P10: nothing that has a name.
func TestExportNothing(t *testing.T) {
	goesOut(t, braid.New(), "")
	goesOut(t, stored(t, blob("x")+onRef("m", 2)+"M 100644 :1 a\n\nreset m\n\n"), "")
	goesOut(t, stored(t, blob("x")), "", drop("a"), move("b", "c"), rename("a", "A", "b"))
}

// P10: the document's example.
func TestExportExample(t *testing.T) {
	goesOut(t, stored(t, strings.TrimSuffix(example, "done\n")), strings.TrimSuffix(example, "done\n"))
}

// P10: blobs that the M's need, each once, in the order of paths, and none
// besides.
func TestExportBlobs(t *testing.T) {
	s := stored(t, marked(1, "none's")+onRef("m", 2)+inline("z", "1")+inline("y", "2")+inline("x", "1")+inline("w", "gone")+"D w\n\n")
	first := marked(1, "1") + marked(2, "2") + onRef("m", 3) + "M 100644 :1 x\nM 100644 :2 y\nM 100644 :1 z\n\n"
	goesOut(t, s, first)
	taken(t, s, onRef("m", 1)+"R z a\n"+inline("b", "3")+inline("y", "1")+"\n")
	goesOut(t, s, first+marked(4, "3")+onRef("m", 5)+"from :3\nD z\nM 100644 :1 a\nM 100644 :4 b\nM 100644 :1 y\n\n")
}

// P10: what is a change, and in which order changes stand.
func TestExportChanges(t *testing.T) {
	put := "M 100644 :1 "
	first := marked(1, "1") + onRef("main", 2) + put + "a\n" + put + "b/c\n" + put + "b/d\n" + put + "e\n" + put + "e-f\n\n"
	for _, c := range []struct{ changes, goesOut string }{
		{"", ""},
		{"D none\nC a a\nR b b\n", ""},
		{"D a\n" + inline("a", "1"), ""},
		{"C a x\nD a\nC x a\nD x\n", ""},
		{"deleteall\n", "D a\nD b/c\nD b/d\nD e\nD e-f\n"},
		{"M 100755 inline a\n" + data("1"), "M 100755 :1 a\n"},
		{"R a a/b/c\n", "D a\n" + put + "a/b/c\n"},
		{"R b/d b\n", "D b/c\nD b/d\n" + put + "b\n"},
		{"C a b\n", "D b/c\nD b/d\n" + put + "b\n"},
		{"R b e\n", "D b/c\nD b/d\nD e\n" + put + "e/c\n" + put + "e/d\n"},
		{"R e-f 0\nR a f\nC e e-f\n", "D a\n" + put + "0\n" + put + "f\n"},
		{"C a e.f\nC a e-e\nC a E\nR e e/f\n", "D e\n" + put + "E\n" + put + "e-e\n" + put + "e.f\n" + put + "e/f\n"},
	} {
		s := stored(t, first, onRef("main", 1)+c.changes+"\n")
		goesOut(t, s, first+onRef("main", 3)+"from :2\n"+c.goesOut+"\n")
	}
}

// P10: a commit's author, time and message, with any bytes in it.
func TestExportLines(t *testing.T) {
	commands := ""
	for i, message := range []string{"", "\n", "\n\nparent x\n\n", "done\n", "tree\x00\xff", strings.Repeat("m", 200)} {
		ref := "r" + strconv.Itoa(i)
		for _, author := range []string{"A", "A B", "x  0  Y"} {
			mark := strings.Count(commands, "mark") + 1
			commands += fmt.Sprintf("commit %s\nmark :%d\nauthor %s <-.@> %d\n%s", ref, mark, author, 9999999999*(mark%2), data(message))
			if author != "A" {
				commands += fmt.Sprintf("from :%d\n", mark-1)
			}
			commands += "\n"
		}
	}
	goesOut(t, stored(t, commands), commands)
	commands = onRef("m", 1) + "\ntag v\nfrom :1\n" + data("\n\nx\n") + "tag w\nfrom :1\n" + empty
	goesOut(t, stored(t, commands), commands)
}

// P10: parents ahead of their commit, the first one first, each commit once.
func TestExportOrder(t *testing.T) {
	s := stored(t, onRef("z", 1)+inline("1", "")+"\n"+onRef("y", 2)+"from z\n"+inline("2", "")+"\n"+onRef("x", 3)+"from z\n"+inline("3", "")+"\n"+
		onRef("a", 4)+"from x\nmerge y\nmerge z\nmerge y\n\n"+onRef("b", 5)+"from y\nmerge a\n\nreset z\nfrom x\n\nreset y\n\n")
	goesOut(t, s, marked(1, "")+onRef("a", 2)+"M 100644 :1 1\n\n"+onRef("a", 3)+"from :2\nM 100644 :1 3\n\n"+onRef("a", 4)+"from :2\nM 100644 :1 2\n\n"+
		onRef("a", 5)+"from :3\nmerge :4\nmerge :2\nmerge :4\n\n"+onRef("b", 6)+"from :4\nmerge :5\n\nreset x\nfrom :3\n\nreset z\nfrom :3\n\n")
}

// P10: refs are gone through by name, byte by byte.
func TestExportRefsInOrder(t *testing.T) {
	names := []string{"a/b", "a-b", "ab", "a", "b", "0", "-", "tags", "z/z"}
	s := stored(t, onRef("a", 1)+"\n")
	for _, name := range names {
		taken(t, s, "reset "+name+"\nfrom a\n\n")
	}
	slices.Sort(names)
	want := onRef(names[0], 1) + "\n"
	for _, name := range names[1:] {
		want += "reset " + name + "\nfrom :1\n\n"
	}
	goesOut(t, s, want)
}

// P10: the first of a commit's parents is its from, and its changes are
// against that one's files, also if the commit was made by merges alone.
func TestExportMergesAlone(t *testing.T) {
	s := stored(t, onRef("p", 1)+inline("a", "")+"\n"+onRef("q", 2)+inline("b", "x")+"\n"+onRef("r", 3)+"merge p\nmerge q\n"+inline("c", "")+"\n")
	goesOut(t, s, marked(1, "")+onRef("p", 2)+"M 100644 :1 a\n\n"+marked(3, "x")+onRef("q", 4)+"M 100644 :3 b\n\n"+
		onRef("r", 5)+"from :2\nmerge :4\nD a\nM 100644 :1 c\n\n")
}

// P10: a commit without parents, where its ref names a commit at that place.
func TestExportRoots(t *testing.T) {
	roots := onRef("p", 1) + inline("a", "1") + "\n" + onRef("q", 2) + inline("a", "2") + "\n" + onRef("r", 3) + "\n"
	s := stored(t, roots+onRef("a", 4)+"from p\nmerge q\nmerge r\n\n")
	goesOut(t, s, marked(1, "1")+onRef("a", 2)+"M 100644 :1 a\n\n"+marked(3, "2")+"reset a\n\n"+onRef("a", 4)+"M 100644 :3 a\n\n"+
		"reset a\n\n"+onRef("a", 5)+"\n"+onRef("a", 6)+"from :2\nmerge :4\nmerge :5\n\n"+
		"reset p\nfrom :2\n\nreset q\nfrom :4\n\nreset r\nfrom :5\n\n")
	goesOut(t, stored(t, roots), marked(1, "1")+onRef("p", 2)+"M 100644 :1 a\n\n"+marked(3, "2")+onRef("q", 4)+"M 100644 :3 a\n\n"+onRef("r", 5)+"\n")
}

// P10: tags come behind all refs, by name; the histories to which they alone
// lead are written on the ref tags, which then is what it was.
func TestExportTags(t *testing.T) {
	tag := func(name, which string) string { return "tag " + name + "\nfrom " + which + "\n" + data(name) }
	lost := onRef("l", 1) + "\n" + onRef("l", 2) + inline("a", "1") + "\n" + onRef("k", 3) + inline("b", "1") + "\n" +
		tag("b", "l") + tag("a", "k") + tag("c", ":1") + tag("d", "l") + "reset l\n\nreset k\n\n"
	written := func(mark int, ahead string) string {
		m := func(n int) string { return ":" + strconv.Itoa(mark+n) }
		return marked(mark, "1") + ahead + onRef("tags", mark+1) + "M 100644 " + m(0) + " b\n\n" + tag("a", m(1)) +
			"reset tags\n\n" + onRef("tags", mark+2) + "\n" + onRef("tags", mark+3) + "from " + m(2) + "\nM 100644 " + m(0) + " a\n\n" +
			tag("b", m(3)) + tag("c", m(2)) + tag("d", m(3))
	}
	s := stored(t, lost)
	goesOut(t, s, written(1, "")+"reset tags\n\n")
	taken(t, s, onRef("tags", 1)+"D x\n\n"+strings.Replace(onRef("tags", 2), "> 1", "> 2", 1)+"\n"+tag("z", "tags"))
	last := onRef("tags", 1) + "\n" + strings.Replace(onRef("tags", 2), "> 1", "> 2", 1) + "from :1\n\n"
	goesOut(t, s, last+marked(3, "1")+"reset tags\n\n"+onRef("tags", 4)+"M 100644 :3 b\n\n"+tag("a", ":4")+
		onRef("tags", 5)+"from :1\nM 100644 :3 a\n\n"+tag("b", ":5")+tag("c", ":1")+tag("d", ":5")+tag("z", ":2")+"reset tags\nfrom :2\n\n")
	s = stored(t, onRef("m", 1)+"\n"+onRef("m", 2)+"\n"+tag("tags", "m")+tag("m", ":1")+tag("a", "m"))
	goesOut(t, s, onRef("m", 1)+"\n"+onRef("m", 2)+"from :1\n\n"+tag("a", ":2")+tag("m", ":1")+tag("tags", ":2"))
}

// P10, P8: a store that was opened goes out as the other one.
func TestExportOpened(t *testing.T) {
	s, _ := lived(life())
	want, err := s.Export()
	if err != api.OK {
		t.Fatalf("P10: Export = %d", err)
	}
	holdExport(t, opened(t, s.Bytes()), want, api.OK)
}

// reaching: a store whose stream has so many bytes, and its commands.
func reaching(t *testing.T, size int) (*braid.Store, string) {
	t.Helper()
	text := ""
	for i := range 30 {
		text += marked(i+1, fmt.Sprint(100+i)+strings.Repeat("\n", 197))
	}
	text += onRef("m", 31)
	for i := range 30 {
		text += fmt.Sprintf("M 100644 :%d %d\n", i+1, 100+i)
	}
	text += "\n"
	s := stored(t, text)
	for mark := 32; ; mark++ {
		next := func(from string, message int) string {
			return strings.Replace(onRef("m", mark), empty, data(strings.Repeat("x", message))+from, 1) + "\n"
		}
		from := "from :" + strconv.Itoa(mark-1) + "\n"
		rest := size - len(text+next(from, 100)+"done\n")
		if rest < 100 {
			taken(t, s, next("", 100+rest))
			return s, text + next(from, 100+rest)
		}
		taken(t, s, next("", 20))
		text += next(from, 20)
	}
}

// P10: bytes, up to MaxStream.
func TestExportMaxStream(t *testing.T) {
	for _, size := range []int{7999, 8000, 8001, 8002} {
		s, commands := reaching(t, size)
		if got := len(commands + "done\n"); got != size {
			t.Fatalf("the stream has %d bytes, not %d", got, size)
		}
		if size <= api.MaxStream {
			goesOut(t, s, commands)
			continue
		}
		holdExport(t, s, "", api.ErrLimit)
		if _, err := s.Export(drop("100")); err != api.OK {
			t.Errorf("P11: Export of fewer bytes by a rule: %d", err)
		}
	}
}

// P10: commands, up to MaxCommands; `done` does not count. All of them do:
// blobs, commits, resets and tags.
func TestExportMaxCommands(t *testing.T) {
	last := strings.Replace(onRef("m", 1), "> 1", "> 2", 1) + "\n"
	lost := onRef("x", 1) + "\ntag lost\nfrom x\n" + empty + "reset x\n\n"
	for _, c := range []struct {
		name, base string
		has        int
		more       func(i int) string
	}{
		{"commits", last, 1, func(int) string { return last }},
		{"resets", last, 1, func(i int) string { return "reset r" + strconv.Itoa(i) + "\nfrom m\n\n" }},
		{"tags", last, 1, func(i int) string { return "tag r" + strconv.Itoa(i) + "\nfrom m\n" + empty }},
		{"a commit that a tag leads to, with its tag and reset", last + lost, 4, func(int) string { return last }},
		{"one more, with blob and reset", last + lost + onRef("x", 2) + inline("a", "") + "\ntag zlost\nfrom x\n" + empty + "reset x\n\n", 8, func(int) string { return last }},
	} {
		s := stored(t, strings.Replace(c.base, "mark :1\n", "mark :9\n", 1))
		for n := c.has; n < 60; n++ {
			taken(t, s, c.more(n))
		}
		stream, err := s.Export()
		if n, _ := braid.Check(stream); n != 60 || err != api.OK {
			t.Errorf("P10: %s: Export of sixty commands = %d commands, %d", c.name, n, err)
		}
		for n := range 3 {
			taken(t, s, c.more(60+n))
			holdExport(t, s, "", api.ErrLimit)
		}
	}
}

// P10: changes of a commit, up to MaxChanges, D's and M's together.
func TestExportMaxChanges(t *testing.T) {
	puts := func(head string, n int) string {
		text := ""
		for i := range n {
			text += "M 100644 :1 " + head + strconv.Itoa(i) + "\n"
		}
		return text
	}
	s := stored(t, marked(1, "x")+onRef("m", 2)+puts("a/", 30)+"\n", onRef("m", 1)+"deleteall\n\n")
	if _, err := s.Export(); err != api.OK {
		t.Errorf("P10: Export of thirty changes: %d", err)
	}
	for _, c := range []struct {
		changes string
		want    api.Errno
	}{
		{"R a b\n", api.OK}, {"R a b\nC b/1 c\n", api.ErrLimit}, {"D a/1\nR a b\nC b/2 c\n", api.OK}, {"D a/1\nR a b\nC b/2 c\nC c d\n", api.ErrLimit}, {"C a b\nC a c\n", api.OK}, {"C a b\nC a c\nC a/1 d\n", api.ErrLimit},
	} {
		s := stored(t, marked(1, "x")+onRef("m", 2)+puts("a/", 15)+"\n", onRef("m", 1)+c.changes+"\n")
		if _, err := s.Export(); err != c.want {
			t.Errorf("P10: Export of %q: %d, want %d", c.changes, err, c.want)
		}
	}
	s = stored(t, marked(1, "x")+onRef("main", 2)+puts("a/", 20)+"C a b\n\n")
	holdExport(t, s, "", api.ErrLimit)
	holdExport(t, s, "", api.ErrLimit, drop("a/1"))
	if _, err := s.Export(drop("b")); err != api.OK {
		t.Errorf("P11: Export of fewer changes by a rule: %d", err)
	}
	if _, err := s.Export(move("a", "b")); err != api.OK {
		t.Errorf("P11: Export of fewer changes by a rule: %d", err)
	}
}

// P1: histories that are long, or that many ways lead through.
func TestExportGreat(t *testing.T) {
	s := stored(t, onRef("m", 1)+"\n")
	for range 80 {
		commands := ""
		for i := range 50 {
			commands += onRef("m", i+1) + "merge m\nmerge m\nmerge m\n\n"
		}
		taken(t, s, commands)
	}
	holdExport(t, s, "", api.ErrLimit)
	holdExport(t, s, "", api.ErrLimit, drop("a"))
	holdExport(t, s, "", api.ErrRule, drop(""))
	taken(t, s, "tag v\nfrom m\n"+empty+"reset m\n\n")
	holdExport(t, s, "", api.ErrLimit)
	commands := onRef("m", 1) + "\n"
	for mark := range 55 {
		line := ":" + strconv.Itoa(mark+1) + "\n"
		commands += onRef("m", mark+2) + "from " + line + strings.Repeat("merge "+line, 3) + "\n"
	}
	goesOut(t, stored(t, commands), commands)
}

// P11: rules that may not be.
func TestExportWrongRules(t *testing.T) {
	long := strings.Repeat("twelve-bytes/", 4)
	twenty := strings.Repeat("n", 20)
	full := having(t, "a")
	over, _ := reaching(t, 8001)
	for _, s := range []*braid.Store{braid.New(), full, over} {
		for _, rule := range []api.Rule{
			{}, {From: "a", To: "a", Name: "a"}, {Kind: 4, From: "a", To: "a", Name: "a"}, {Kind: -1, From: "a", To: "a", Name: "a"}, {Kind: 1 << 40, From: "a", To: "a", Name: "a"},
			drop(""), drop("/"), drop("a/"), drop("/a"), drop("a//b"), drop("."), drop("a/.."), drop("a b"), drop("a\n"), drop("a/b/c/d/e/f/g"), drop("thirteenbytes"), drop(long + "123456789"), drop("@"), drop("\xff"),
			move("", "a"), move("a", ""), move("a/", "a"), move("a", "a/"), move("a", ".."), move("a", "a/b/c/d/e/f/g"), move("a", long+"123456789"), move(long+"123456789", "a"), move("a", "thirteenbytes"), move("a", "a b"),
			rename("", "A", "a"), rename("a", "", "a"), rename("a", "A", ""), rename("a b", "A", "a"), rename("a", "A", "a b"), rename("a_b", "A", "a"), rename("a", " A", "a"), rename("a", "A ", "a"), rename("a", " ", "a"), rename("a", "A.B", "a"), rename("a", "A\n", "a"), rename("a", "A", "<a>"), rename(twenty+"n", "A", "a"), rename("a", twenty+"n", "a"), rename("a", "A", twenty+"n"),
		} {
			holdExport(t, s, "", api.ErrRule, rule)
			holdExport(t, s, "", api.ErrRule, drop("a"), rule)
			holdExport(t, s, "", api.ErrRule, rule, drop("a"))
		}
		for n := range 12 {
			_, err := s.Export(slices.Repeat([]api.Rule{drop("a")}, n)...)
			if (err == api.ErrRule) != (n > api.MaxRules) {
				t.Errorf("P11: Export with %d rules: %d", n, err)
			}
		}
	}
	for _, rule := range []api.Rule{
		{Kind: api.Drop, From: "x", To: "//", Name: "\n"}, {Kind: api.Move, From: "x", To: "y", Name: " "}, drop(long + "12345678"), move(long+"12345678", long+"12345678"),
		drop("a/b/c/d/e/f"), rename(twenty, twenty, twenty), rename("@", "0  0", "-."), drop("..."), drop("_"),
	} {
		if stream, err := full.Export(rule); stream == "" || err != api.OK {
			t.Errorf("P11: Export(%v) = %q, %d", rule, stream, err)
		}
	}
}

// P11: Drop and Move, in their order, each done to the path as it is then.
func TestExportPaths(t *testing.T) {
	s := having(t, "a", "ab", "b/c", "b/d/e", "b-c")
	all := "a=a ab=ab b-c=b-c b/c=b/c b/d/e=b/d/e"
	for _, c := range []struct {
		rules []api.Rule
		want  string
	}{
		{nil, all},
		{[]api.Rule{drop("c"), drop("d/e"), drop("b/d/e/f"), drop("A"), move("c", "a"), move("b/d/e/f", "x")}, all},
		{[]api.Rule{drop("a")}, "ab=ab b-c=b-c b/c=b/c b/d/e=b/d/e"},
		{[]api.Rule{drop("b")}, "a=a ab=ab b-c=b-c"},
		{[]api.Rule{drop("b/d")}, "a=a ab=ab b-c=b-c b/c=b/c"},
		{[]api.Rule{drop("a"), drop("ab"), drop("b"), drop("b-c")}, ""},
		{[]api.Rule{move("b", "x/y")}, "a=a ab=ab b-c=b-c x/y/c=b/c x/y/d/e=b/d/e"},
		{[]api.Rule{move("b/d/e", "b/d")}, "a=a ab=ab b-c=b-c b/c=b/c b/d=b/d/e"},
		{[]api.Rule{move("a", "a")}, all},
		{[]api.Rule{move("a", "a/a"), move("b", "b/b")}, "a/a=a ab=ab b-c=b-c b/b/c=b/c b/b/d/e=b/d/e"},
		{[]api.Rule{move("a", "x"), drop("a")}, "ab=ab b-c=b-c b/c=b/c b/d/e=b/d/e x=a"},
		{[]api.Rule{drop("a"), move("a", "x")}, "ab=ab b-c=b-c b/c=b/c b/d/e=b/d/e"},
		{[]api.Rule{move("a", "x"), drop("x")}, "ab=ab b-c=b-c b/c=b/c b/d/e=b/d/e"},
		{[]api.Rule{drop("x"), move("a", "x")}, "ab=ab b-c=b-c b/c=b/c b/d/e=b/d/e x=a"},
		{[]api.Rule{move("a", "x"), move("x", "y"), move("y", "z")}, "ab=ab b-c=b-c b/c=b/c b/d/e=b/d/e z=a"},
		{[]api.Rule{move("y", "z"), move("x", "y"), move("a", "x")}, "ab=ab b-c=b-c b/c=b/c b/d/e=b/d/e x=a"},
		{[]api.Rule{move("b", "a"), move("a", "b")}, "ab=ab b-c=b-c b/c=b/c b/d/e=b/d/e"},
		{[]api.Rule{rename("a", "A", "x"), rename("b", "A", "a"), move("ab", "q")}, "a=a b-c=b-c b/c=b/c b/d/e=b/d/e q=ab"},
	} {
		holdPaths(t, s, c.want, c.rules...)
	}
}

// P11: a file lies at its new path as by M: what lay there, below it or above
// it, is gone, and of two the later one in the order of paths stays.
func TestExportPathsMeet(t *testing.T) {
	for _, c := range []struct {
		paths []string
		rules []api.Rule
		want  string
	}{
		{[]string{"a", "b"}, []api.Rule{move("a", "b")}, "b=b"},
		{[]string{"a", "b"}, []api.Rule{move("b", "a")}, "a=b"},
		{[]string{"a", "b", "c"}, []api.Rule{move("b", "x"), move("c", "x"), move("a", "x")}, "x=c"},
		{[]string{"a", "b/c", "b/d"}, []api.Rule{move("a", "b")}, "b/c=b/c b/d=b/d"},
		{[]string{"a/c", "a/d", "b"}, []api.Rule{move("b", "a")}, "a=b"},
		{[]string{"a", "b"}, []api.Rule{move("b", "a/c/d")}, "a/c/d=b"},
		{[]string{"a", "b"}, []api.Rule{move("a", "b/c/d")}, "b=b"},
		{[]string{"a", "ab", "c"}, []api.Rule{move("c", "a/x")}, "a/x=c ab=ab"},
		{[]string{"a-b", "a/b", "x"}, []api.Rule{move("x", "a")}, "a=x a-b=a-b"},
		{[]string{"x/1", "x/2", "y/1", "y/3"}, []api.Rule{move("x", "z"), move("y", "z")}, "z/1=y/1 z/2=x/2 z/3=y/3"},
		{[]string{"x-1", "x/1"}, []api.Rule{move("x-1", "z"), move("x/1", "z")}, "z=x/1"},
	} {
		holdPaths(t, having(t, c.paths...), c.want, c.rules...)
	}
}

// P11: a path that in the end is too long is left out, and takes nothing away.
func TestExportPathsTooLong(t *testing.T) {
	part := "/twelve-bytes"
	four := strings.Repeat(part, 4)[1:]
	for _, c := range []struct {
		paths []string
		rules []api.Rule
		want  string
	}{
		{[]string{"a/b", "c"}, []api.Rule{move("a", "1/2/3/4/5")}, "1/2/3/4/5/b=a/b c=c"},
		{[]string{"a/b", "c"}, []api.Rule{move("a", "1/2/3/4/5/6")}, "c=c"},
		{[]string{"a/12345678", "c"}, []api.Rule{move("a", four)}, "c=c " + four + "/12345678=a/12345678"},
		{[]string{"a/123456789", "c"}, []api.Rule{move("a", four)}, "c=c"},
		{[]string{"a/b", "c"}, []api.Rule{move("a", "1/2/3/4/5/6"), move("1/2/3/4/5", "x")}, "c=c x/6/b=a/b"},
		{[]string{"a/b", "c"}, []api.Rule{move("a", "a/a/a/a/a/a"), move("a", "a/a/a/a/a/a"), move("a/a/a/a/a/a", "x"), move("x/a/a/a/a/a", "y")}, "c=c y/b=a/b"},
		{[]string{"a/b", "c"}, []api.Rule{move("a", "1/2/3/4/5/6"), drop("1/2/3/4/5/6")}, "c=c"},
		{[]string{"1/2", "a/b/c"}, []api.Rule{move("a", "1/2/3/4/5/6")}, "1/2=1/2"},
	} {
		holdPaths(t, having(t, c.paths...), c.want, c.rules...)
	}
}

// P11: the first rule whose From is the mail, and only that one.
func TestExportAuthors(t *testing.T) {
	by := func(mark int, author, from string) string {
		return "commit m\nmark :" + strconv.Itoa(mark) + "\nauthor " + author + " 5\n" + data("by <a>") + from + "\n"
	}
	three := func(first, second, third string) string {
		return by(1, first, "") + by(2, second, "from :1\n") + by(3, third, "from :2\n")
	}
	s := stored(t, three("A <a>", "B <b>", "A B <aa>"))
	for _, c := range []struct {
		rules                []api.Rule
		first, second, third string
	}{
		{nil, "A <a>", "B <b>", "A B <aa>"},
		{[]api.Rule{rename("A", "X", "x"), rename("B", "X", "x"), rename("a-", "X", "x")}, "A <a>", "B <b>", "A B <aa>"},
		{[]api.Rule{rename("a", "X Y", "x@y")}, "X Y <x@y>", "B <b>", "A B <aa>"},
		{[]api.Rule{rename("a", "X", "b"), rename("b", "Y", "a")}, "X <b>", "Y <a>", "A B <aa>"},
		{[]api.Rule{rename("aa", "1", "1"), rename("a", "2", "2"), rename("a", "3", "3"), rename("2", "4", "4")}, "2 <2>", "B <b>", "1 <1>"},
		{[]api.Rule{drop("a"), move("b", "x"), rename("b", "B", "c")}, "A <a>", "B <c>", "A B <aa>"},
	} {
		goesOut(t, s, three(c.first, c.second, c.third), c.rules...)
	}
}

// P11: changes are against the first parent's files as they were made anew;
// commits that have none any more stay, messages and tags too.
func TestExportRulesOfHistories(t *testing.T) {
	s := stored(t, onRef("m", 1)+inline("a/b", "1")+inline("c", "2")+"\n"+onRef("m", 2)+inline("a/b", "3")+"\n"+onRef("n", 3)+"from :1\nM 100755 inline c\n"+data("2")+"\n"+
		onRef("m", 4)+"merge n\nD a\n\ntag v\nfrom :2\n"+data("a/b"))
	tag := func(mark int) string { return "tag v\nfrom :" + strconv.Itoa(mark) + "\n" + data("a/b") }
	goesOut(t, s, marked(1, "2")+onRef("m", 2)+"M 100644 :1 c\n\n"+onRef("m", 3)+"from :2\n\n"+onRef("m", 4)+"from :2\nM 100755 :1 c\n\n"+onRef("m", 5)+"from :3\nmerge :4\n\n"+
		"reset n\nfrom :4\n\n"+tag(3), drop("a"))
	goesOut(t, s, marked(1, "2")+onRef("m", 2)+"M 100644 :1 a/b\n\n"+onRef("m", 3)+"from :2\n\n"+onRef("m", 4)+"from :2\nM 100755 :1 a/b\n\n"+onRef("m", 5)+"from :3\nmerge :4\n\n"+
		"reset n\nfrom :4\n\n"+tag(3), move("c", "a/b"))
	goesOut(t, s, onRef("m", 1)+"\n"+onRef("m", 2)+"from :1\n\n"+onRef("m", 3)+"from :1\n\n"+onRef("m", 4)+"from :2\nmerge :3\n\n"+
		"reset n\nfrom :3\n\n"+tag(2), drop("a/b"), drop("c"))
}

// P11: commits that rules make alike are still each written once.
func TestExportMadeAlike(t *testing.T) {
	s := stored(t, onRef("p", 1)+inline("a", "1")+"\n"+onRef("q", 2)+inline("a", "2")+"\n")
	goesOut(t, s, onRef("p", 1)+"\n"+onRef("q", 2)+"\n", drop("a"))
}

// P2: rules are not changed and not kept, their spare room neither.
func TestExportKeepsNoRules(t *testing.T) {
	s := having(t, "a", "b")
	rules := []api.Rule{move("b", "a"), rename("a", "B", "b"), drop("spare"), {Kind: 9}}
	before := slices.Clone(rules)
	first, err := s.Export(rules[:2]...)
	if !slices.Equal(rules, before) || err != api.OK {
		t.Errorf("P2: Export has made its rules %v, %d", rules, err)
	}
	kept := strings.Clone(first)
	rules[0], rules[1] = drop("a"), drop("b")
	if first != kept {
		t.Error("P2: rules that were changed later have changed an answer")
	}
	holdPaths(t, s, "a=a b=b")
	second, _ := s.Export(before[:2]...)
	if second != kept {
		t.Error("P2: the same call has another answer")
	}
}

// P2: texts that lie in memory of the caller are not kept in an answer.
func TestExportSharesNoText(t *testing.T) {
	s := having(t, "a")
	b := []byte("mail")
	stream, _ := s.Export(rename("a", asText(b), asText(b)))
	kept := strings.Clone(stream)
	spoil(b, 88)
	if stream != kept {
		t.Error("P2: what was handed in later has changed an answer")
	}
}

func (k maker) rule() api.Rule {
	switch k.Intn(3) {
	case 0:
		return drop(k.path())
	case 1:
		return move(k.path(), k.path())
	}
	return rename(k.one("a", "a@b", ".-", "x"), k.one("N", "O P"), k.one("a", ".-", "x"))
}

func (k maker) rules() []api.Rule {
	all := make([]api.Rule, k.Intn(9))
	for i := range all {
		all[i] = k.rule()
	}
	return all
}

// P10 to P12: histories of some streams, held against the model.
func TestExportRandom(t *testing.T) {
	r := rand.New(rand.NewSource(4))
	answers := map[api.Errno]int{}
	seen := map[string]int{`\nmerge `: 0, `\nD `: 0, `\nreset [^\n]+\n\ncommit `: 0, `\nreset tags\n\ndone\n`: 0, `\nreset tags\nfrom :\d+\n\ndone\n`: 0, `\ntag `: 0}
	for range 600 {
		s, m := braid.New(), newModel()
		k := maker{r, m}
		for range 1 + r.Intn(4) {
			text, _, _, next := k.stream()
			s.Import(text)
			k.m = next
		}
		stream, err := k.m.export(nil)
		answers[err]++
		if err == api.OK {
			goesOut(t, s, strings.TrimSuffix(stream, "done\n"))
		} else {
			holdExport(t, s, "", err)
		}
		for part := range seen {
			if regexp.MustCompile(part).MatchString(stream) {
				seen[part]++
			}
		}
		for range 4 {
			rules := k.rules()
			stream, err := k.m.export(rules)
			if err == api.OK {
				goesOut(t, s, strings.TrimSuffix(stream, "done\n"), rules...)
			} else {
				holdExport(t, s, "", err, rules...)
			}
		}
		if t.Failed() {
			t.FailNow()
		}
	}
	for part, n := range seen {
		if n < 5 {
			t.Errorf("the streams are too much alike: %s is in %d of them", part, n)
		}
	}
	if answers[api.OK] < 300 || answers[api.ErrLimit] < 10 {
		t.Errorf("the streams are too much alike: %v", answers)
	}
}
