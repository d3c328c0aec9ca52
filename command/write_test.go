package command

import (
	"strings"
	"testing"

	"braid/api"
)

// TestWrite: what was read is written as it was, whatever it is.
func TestWrite(t *testing.T) {
	author := "author A  B <a@b.c> 9999999999\n"
	for _, commands := range []string{
		"",
		"blob\nmark :1\ndata 0\n\n",
		"blob\nmark :999\ndata 5\ndone\n\n",
		"blob\nmark :10\ndata 200\n" + strings.Repeat("\n", 200) + "\n",
		"commit a/b\nmark :2\nauthor 0 <-> 0\ndata 0\n\n\n",
		"commit a\nmark :2\n" + author + "data 2\n\n\n\nfrom :7\n\n",
		"commit a\nmark :2\n" + author + "data 2\n\n\n\nfrom x\nmerge y\nmerge :999\nmerge done\n\n",
		"commit a\nmark :2\n" + author + "data 0\n\nmerge y\n\n",
		"commit a\nmark :2\n" + author + "data 0\n\nM 100644 :1 d/f\nM 100755 :12 d\nM 100755 inline g\ndata 0\n\nM 100644 inline g\ndata 3\nD x\nD d\nC a/b c\nR c d/e\ndeleteall\n\n",
		"tag v\nfrom 7\ndata 1\nx\ntag v/w\nfrom :7\ndata 0\n\n",
		"reset r\n\nreset r\nfrom :3\n\nreset r-s\nfrom r\n\n",
	} {
		read, _, err := Read(commands + "done\n")
		if err != api.OK {
			t.Fatalf("Read(%q): %d", commands, err)
		}
		if got := Write(read); got != commands+"done\n" {
			t.Errorf("Write of %q gives\n%q", commands, got)
		}
	}
}

// TestWriteUnknown: a word that the table does not have is not written.
func TestWriteUnknown(t *testing.T) {
	if got := Write([]Command{{Word: "none", Ref: "x"}, {Word: "reset", Ref: "r"}}); got != "reset r\n\ndone\n" {
		t.Errorf("Write gives %q", got)
	}
}
