package braid_test

import (
	"math/rand"
	"strconv"
	"strings"
	"sync"
	"testing"

	"braid/api"
	"braid/braid"
)

const (
	example = "blob\nmark :1\ndata 2\nhi\ncommit main\nmark :2\nauthor A B <a@b> 7\ndata 1\nx\nM 100644 :1 d/f\n\ndone\n"
	reset   = "reset a\n\n"
	author  = "author A <a> 1\n"
	empty   = "data 0\n\n"
	head    = "commit m\nmark :1\n" + author + empty
)

func data(text string) string { return "data " + strconv.Itoa(len(text)) + "\n" + text + "\n" }

func blob(text string) string { return "blob\nmark :1\n" + data(text) }

// filled: blobs and `done`, of so many bytes in all.
func filled(size int) string {
	var s strings.Builder
	size -= len("done\n")
	for size > 300 {
		b := blob(strings.Repeat("x", 200))
		s.WriteString(b)
		size -= len(b)
	}
	last := size - len(blob(strings.Repeat("x", 150))) + 150
	return s.String() + blob(strings.Repeat("x", last)) + "done\n"
}

func holdCheck(t *testing.T, stream string, n int, err api.Errno) {
	t.Helper()
	if gotN, gotErr := braid.Check(stream); gotN != n || gotErr != err {
		t.Errorf("Check(%.200q) = %d, %d, want %d, %d", stream, gotN, gotErr, n, err)
	}
}

// P3: what is a stream, up to the bounds.
func TestCheckRight(t *testing.T) {
	all := string(make([]byte, 100)) + "\n\xff\r" + strings.Repeat("done\n", 19) + "\nz"
	for stream, n := range map[string]int{
		"done\n": 0, example: 2, reset + "done\n": 1,
		blob("") + "done\n": 1, blob(all) + "done\n": 1, blob("done\n") + blob("blob\nmark :1\ndata 0\n") + "done\n": 2,
		"blob\nmark :999\n" + empty + "done\n":                                                        1,
		"commit 0-/z\nmark :1\nauthor A1  zZ <a.Z-9@> 0\n" + empty + "\ndone\n":                       1,
		head + "from done\nmerge :1\nmerge 1\nmerge a/b\n\ndone\n":                                    1,
		head + "merge a\n\ndone\n":                                                                    1,
		head + strings.Repeat("deleteall\n", 30) + "\ndone\n":                                         1,
		head + strings.Repeat("M 100755 inline a\n"+data("D b\n\n"), 30) + "\ndone\n":                 1,
		"tag v\nfrom :999\n" + data("\n\n") + "tag v\nfrom v\n" + empty + "done\n":                    2,
		"reset a\nfrom :1\n\nreset a\nfrom a\n\nreset " + strings.Repeat("r", 20) + "\n\n" + "done\n": 3,
		strings.Repeat(reset, 60) + "done\n":                                                          60,
		strings.Repeat(blob(""), 60) + "done\n":                                                       60,
		head + "D " + strings.Repeat("twelve-bytes/", 4) + "12345678\n\ndone\n":                       1,
		head + "C a/b/c/d/e/f a\nR a a/b/c/d/e/f\n\ndone\n":                                           1,
	} {
		holdCheck(t, stream, n, api.OK)
	}
	holdCheck(t, filled(8000), 36, api.OK)
}

// P3: each of these stands behind a command and ahead of `done`, and is no command.
func TestCheckWrongCommand(t *testing.T) {
	commit := func(line string) string { return "commit m\nmark :1\n" + line + "\n" + empty + "\n" }
	for _, text := range []string{
		" ", "\n", "x\n", "\x00\n", "BLOB\n", "commits m\n", "done \n", "done x\n", " done\n", "feature done\n", "mark :1\n", empty,
		"blob", "blob\n", "blob \nmark :1\n" + empty, "blob\n\nmark :1\n" + empty, "blob\n" + empty, "blob\nmark :1\n", "blob\nmark :1\n\n", "blob\r\nmark :1\n" + empty,
		"blob\nmark\n" + empty, "blob\nmark \n" + empty, "blob\nmark :\n" + empty, "blob\nmark :0\n" + empty, "blob\nmark :1000\n" + empty, "blob\nmark :01\n" + empty, "blob\nmark 1\n" + empty, "blob\nmark :1 \n" + empty, "blob\nmark  :1\n" + empty, "blob\nmark :1\nmark :2\n" + empty,
		"blob\nmark :1\ndata\n\n", "blob\nmark :1\ndata \n\n", "blob\nmark :1\ndata 0 \n\n", "blob\nmark :1\ndata 01\na\n", "blob\nmark :1\ndata 1\nab\n", "blob\nmark :1\ndata 3\nab\n", "blob\nmark :1\ndata x\n\n", "blob\nmark :1\ndata 0\n", "blob\nmark :1\ndata 200\nab\n", blob(strings.Repeat("a", 201)), "blob\nmark :1\ndata 18446744073709551616\n\n",
		"reset\n\n", "reset \n\n", "reset  a\n\n", "reset a \n\n", "reset a\n", "reset a\nfrom\n\n", "reset a\nfrom \n\n", "reset a\nfrom :\n\n", "reset a\nfrom a\n", "reset a\nfrom a\nfrom a\n\n", "reset a\nfrom :1000\n\n", "reset a\nmerge b\n\n", "reset a\nfrom b/\n\n", "reset " + strings.Repeat("r", 21) + "\n\n", "reset a\nfrom " + strings.Repeat("r", 21) + "\n\n", "reset a\nmark :1\n\n",
		"tag\nfrom a\n" + empty, "tag v\n" + empty, "tag v\n\n" + empty, "tag v\nfrom a\n", "tag v\nfrom a\n\n", "tag v\nmark :1\nfrom a\n" + empty, "tag V\nfrom a\n" + empty, "tag v\nmerge a\n" + empty,
		"commit\nmark :1\n" + author + empty + "\n", "commit M\nmark :1\n" + author + empty + "\n", "commit m\n" + author + empty + "\n", "commit m\nmark :1\n" + empty + "\n", "commit m\nmark :1\n" + author + "\n", "commit m\n" + author + "mark :1\n" + empty + "\n", "commit m\nmark :0\n" + author + empty + "\n",
		commit(""), commit("author"), commit("author "), commit("author A"), commit("author A <a>"), commit("author A <a> "), commit("author <a> 1"), commit("author  <a> 1"), commit("author  A <a> 1"), commit("author A  <a> 1"), commit("author A<a> 1"), commit("author A a 1"), commit("author A <> 1"), commit("author A <a 1"), commit("author A a> 1"), commit("author A <a>1"), commit("author A <a>  1"), commit("author A <a> 1 "), commit("author A <a> 01"), commit("author A <a> -1"), commit("author A <a> 10000000000"), commit("author A <a> 18446744073709551617"), commit("author A <a> 1 +0000"), commit("author A.B <a> 1"), commit("author A <a_b> 1"), commit("author A <<a> 1"), commit("author A <a>> 1"), commit("author " + strings.Repeat("A", 21) + " <a> 1"), commit("author A <" + strings.Repeat("a", 21) + "> 1"), commit("committer A <a> 1"),
		head, head + "from a\n", head + "from \n\n", head + "from a\nfrom a\n\n", head + "merge a\nfrom a\n\n", head + "D a\nfrom a\n\n", head + "D a\nmerge a\n\n", head + "merge :0\n\n", head + "merge\n\n", head + strings.Repeat("merge a\n", 4) + "\n",
		head + "D a\n", head + strings.Repeat("D a\n", 31) + "\n", head + strings.Repeat("M 100644 inline a\n"+empty, 31) + "\n", head + " \n", head + "a\n\n", head + "m 100644 :1 a\n\n", head + "DD a\n\n", head + empty + "\n",
		head + "M\n\n", head + "M 100644 :1\n\n", head + "M 100644 :1 \n\n", head + "M 100644 :1 a b\n\n", head + "M 100644 :1 a \n\n", head + "M  100644 :1 a\n\n", head + "M 40000 :1 a\n\n", head + "M 644 :1 a\n\n", head + "M 100645 :1 a\n\n", head + "M 0100644 :1 a\n\n", head + "M 100644 :0 a\n\n", head + "M 100644 :1000 a\n\n", head + "M 100644 1 a\n\n", head + "M 100644 a a\n\n", head + "M 100644 :1 a/\n\n", head + "M 100644 :1 a\n" + empty + "\n", head + "M 100644 inline a\n\n", head + "M 100644 inline /a\n" + empty + "\n", head + "M 100644 inline a\ndata 1\n\n\n", head + "M 100644 inline\n" + empty + "\n", head + "M 40000 inline a\n" + empty + "\n",
		head + "D\n\n", head + "D \n\n", head + "D a b\n\n", head + "D a \n\n", head + "D .\n\n", head + "D a/..\n\n", head + "D a/b/c/d/e/f/g\n\n", head + "D thirteenbytes\n\n", head + "D " + strings.Repeat("twelve-bytes/", 4) + "123456789\n\n", head + "D \xc3\xa4\n\n", head + "D \"a\"\n\n",
		head + "C a\n\n", head + "C a b c\n\n", head + "C  a\n\n", head + "C a \n\n", head + "C /a b\n\n", head + "C a b/\n\n", head + "R a\n\n", head + "R a b c\n\n", head + "R a  b\n\n", head + "R . b\n\n", head + "R a ..\n\n", head + "deleteall \n\n", head + "deleteall a\n\n", head + "delete\n\n", head + "deleteall a b c\n\n",
	} {
		holdCheck(t, reset+text+"done\n", 2, api.ErrForm)
		holdCheck(t, text+"done\n"+reset, 1, api.ErrForm)
		holdCheck(t, example[:len(example)-len("done\n")]+text+"done\n", 3, api.ErrForm)
	}
}

// P3: what stands behind `done`; an end without it.
func TestCheckEnd(t *testing.T) {
	for stream, n := range map[string]int{
		"": 1, "done": 1, "don": 1, "\ndone\n": 1, "done\r\n": 1, "Done\n": 1,
		"done\n\n": 2, "done\n\x00": 2, "done\ndone\n": 2, "done\n" + example: 2,
		reset: 2, reset + "done": 2, reset + "\ndone\n": 2, reset + "done\nx": 3, example + example: 4, example + "\n": 4,
		"tag v\nfrom a\n" + empty + "\ndone\n": 2, blob("") + "\ndone\n": 2,
	} {
		holdCheck(t, stream, n, api.ErrForm)
	}
}

// P3: a stream that is cut off anywhere.
func TestCheckCut(t *testing.T) {
	commands := []string{
		blob("a\n\nb"),
		"commit main\nmark :2\n" + author + data("x") + "from a\nmerge :1\nM 100644 :1 d/f\nM 100755 inline g\n" + data("\n\n") + "D x\nC a b\nR a b\ndeleteall\n\n",
		"tag v\nfrom main\n" + data("x\n"),
		"reset a\nfrom b\n\n",
		"done\n",
	}
	stream := strings.Join(commands, "")
	holdCheck(t, stream, 4, api.OK)
	size := 0
	for i, c := range commands {
		for cut := range len(c) {
			holdCheck(t, stream[:size+cut], i+1, api.ErrForm)
		}
		size += len(c)
	}
}

// P3, P1: bounds of the whole stream, and which error comes first.
func TestCheckLimits(t *testing.T) {
	for _, size := range []int{7999, 8000, 8001} {
		if len(filled(size)) != size {
			t.Fatalf("filled(%d) has %d bytes", size, len(filled(size)))
		}
	}
	many := strings.Repeat(reset, 61)
	for _, stream := range []string{
		filled(8001), strings.Repeat("x", 8001), "done\n" + strings.Repeat("\n", 7996), strings.Repeat(reset, 1000), strings.Repeat(reset, 1000) + "done\n", strings.Repeat("(", 9000000),
		many + "done\n", strings.Repeat(reset, 888) + "done\n",
	} {
		holdCheck(t, stream, 0, api.ErrLimit)
	}
	holdCheck(t, strings.Repeat("x", 8000), 1, api.ErrForm)
	holdCheck(t, filled(7999)+"x", 38, api.ErrForm)
	holdCheck(t, many, 62, api.ErrForm)
	holdCheck(t, many+"x", 62, api.ErrForm)
	holdCheck(t, many+"done\nx", 63, api.ErrForm)
	holdCheck(t, many+many+"reset A\n\ndone\n", 123, api.ErrForm)
	holdCheck(t, strings.Repeat(reset, 888), 889, api.ErrForm)
}

func seeds() []string {
	return []string{
		"done\n", example, strings.Repeat(reset, 60) + "done\n", strings.Repeat(reset, 61) + "done\n",
		blob("done\n") + "tag v/1\nfrom :1\n" + data("m\n") + "reset a-b\nfrom main\n\ndone\n",
		head + "from :1\nmerge a\nmerge :12\nM 100644 inline d/f.x\n" + data("D a\n\n") + "M 100755 :9 y_-\nD ..a\nC a/b c\nR c a/b\ndeleteall\n\nreset x\n\ndone\n",
		head + strings.Repeat("D a\n", 30) + "\n" + head + "merge a\nmerge b\nmerge c\nD a/b/c/d/e/f\n\ndone\n",
		"commit " + strings.Repeat("r", 20) + "\nmark :999\nauthor " + strings.Repeat("n", 20) + " <" + strings.Repeat("m", 20) + "> 9999999999\n" + data(strings.Repeat("d", 200)) + "D " + strings.Repeat("twelve-bytes/", 4) + "12345678\n\ndone\n",
		filled(8000),
	}
}

// mutate takes, adds or changes bytes or lines.
func mutate(r *rand.Rand, stream string) string {
	const some = "\n\n  :/.-_<>@019azAZMDCR\x00\x7f\xff"
	if stream == "" {
		return string(some[r.Intn(len(some))])
	}
	at := r.Intn(len(stream))
	lines := strings.SplitAfter(stream, "\n")
	line, other := r.Intn(len(lines)), r.Intn(len(lines))
	switch r.Intn(6) {
	case 0:
		return stream[:at] + stream[at+1:]
	case 1:
		return stream[:at] + string(some[r.Intn(len(some))]) + stream[at:]
	case 2:
		return stream[:at] + string(some[r.Intn(len(some))]) + stream[at+1:]
	case 3:
		lines[line], lines[other] = lines[other], lines[line]
	case 4:
		lines[line] += lines[other]
	case 5:
		lines[line] = ""
	}
	return strings.Join(lines, "")
}

// P1, P3: streams with faults anywhere, held against the oracle.
func TestCheckMutated(t *testing.T) {
	r := rand.New(rand.NewSource(1))
	answers := map[api.Errno]int{}
	for _, seed := range seeds() {
		for range 4000 {
			stream := seed
			for range 1 + r.Intn(3) {
				stream = mutate(r, stream)
			}
			n, err := oracle(stream)
			holdCheck(t, stream, n, err)
			answers[err]++
		}
	}
	if answers[api.OK] < 1000 || answers[api.ErrForm] < 1000 || answers[api.ErrLimit] < 100 {
		t.Errorf("the streams are too much alike: %v", answers)
	}
}

func FuzzCheck(f *testing.F) {
	for _, seed := range seeds() {
		f.Add(seed)
	}
	f.Fuzz(func(t *testing.T, stream string) {
		n, err := oracle(stream)
		holdCheck(t, stream, n, err)
	})
}

// P2: the same stream has the same answer, whatever is asked ahead of it or beside it.
func TestCheckAgain(t *testing.T) {
	type answer struct {
		n   int
		err api.Errno
	}
	want := map[string]answer{}
	for _, seed := range append(seeds(), "", "x", reset, "done\nx") {
		n, err := braid.Check(seed)
		want[seed] = answer{n, err}
	}
	var wait sync.WaitGroup
	for range 8 {
		wait.Add(1)
		go func() {
			defer wait.Done()
			for range 20 {
				for stream, a := range want {
					holdCheck(t, stream, a.n, a.err)
				}
			}
		}()
	}
	wait.Wait()
}
