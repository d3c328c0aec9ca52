package command

import (
	"reflect"
	"strings"
	"testing"

	"braid/api"
	"braid/object"
)

// TestTable: each command has one row, and the row can read, do and write it.
func TestTable(t *testing.T) {
	var all []string
	for _, known := range table() {
		all = append(all, known.word)
		if known.read == nil || known.do == nil || known.write == nil {
			t.Errorf("%s: no way to read it, to do it, or to write it", known.word)
		}
	}
	if got := strings.Join(all, " "); got != "blob commit tag reset" {
		t.Errorf("the table has: %s", got)
	}
}

func TestRead(t *testing.T) {
	stream := "blob\nmark :1\ndata 5\ndone\n\n" +
		"commit a/b\nmark :2\nauthor A  B <a@b.c> 9999999999\ndata 2\n\n\n\nfrom :7\nmerge x\nmerge :999\nmerge done\n" +
		"M 100644 :1 d/f\nM 100755 inline g\ndata 3\nD x\nD d\nC a/b c\nR c d/e\ndeleteall\n\n" +
		"commit m\nmark :3\nauthor 0 <-> 0\ndata 0\n\n\n" +
		"tag v\nfrom 7\ndata 1\nx\n" +
		"reset r\n\n" +
		"reset r\nfrom :3\n\n" +
		"done\n"
	want := []Command{
		{Word: "blob", Mark: 1, Data: "done\n"},
		{Word: "commit", Ref: "a/b", Mark: 2, Author: object.Author{Name: "A  B", Mail: "a@b.c", Time: 9999999999}, Data: "\n\n",
			From: Which{Mark: 7}, Merges: []Which{{Ref: "x"}, {Mark: 999}, {Ref: "done"}},
			Changes: []Change{
				{Word: "M", Mode: "100644", Mark: 1, Path: "d/f"},
				{Word: "M", Mode: "100755", Data: "D x", Path: "g"},
				{Word: "D", Path: "d"},
				{Word: "C", Path: "a/b", To: "c"},
				{Word: "R", Path: "c", To: "d/e"},
				{Word: "deleteall"},
			}},
		{Word: "commit", Ref: "m", Mark: 3, Author: object.Author{Name: "0", Mail: "-"}},
		{Word: "tag", Ref: "v", From: Which{Ref: "7"}, Data: "x"},
		{Word: "reset", Ref: "r"},
		{Word: "reset", Ref: "r", From: Which{Mark: 3}},
	}
	got, n, err := Read(stream)
	if n != len(want) || err != api.OK {
		t.Fatalf("Read = %d, %d", n, err)
	}
	for i := range want {
		if !reflect.DeepEqual(got[i], want[i]) {
			t.Errorf("command %d:\n%+v\nwant\n%+v", i+1, got[i], want[i])
		}
	}
}

// TestReadWrong: with an error there are no commands, also if some were read.
func TestReadWrong(t *testing.T) {
	reset := "reset a\n\n"
	for _, c := range []struct {
		stream string
		n      int
		err    api.Errno
	}{
		{"", 1, api.ErrForm},
		{reset + "x", 2, api.ErrForm},
		{reset + "done\nx", 3, api.ErrForm},
		{strings.Repeat(reset, 61) + "done\n", 0, api.ErrLimit},
		{strings.Repeat("x", 8001), 0, api.ErrLimit},
	} {
		if got, n, err := Read(c.stream); len(got) != 0 || n != c.n || err != c.err {
			t.Errorf("Read(%.40q) = %d commands, %d, %d, want %d, %d", c.stream, len(got), n, err, c.n, c.err)
		}
	}
}
