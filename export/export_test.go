package export

import (
	"strconv"
	"testing"

	"braid/api"
	"braid/command"
	"braid/history"
	"braid/rules"
)

func commit(ref string, mark int, rest string) string {
	return "commit " + ref + "\nmark :" + strconv.Itoa(mark) + "\nauthor A <a> 1\ndata 0\n\n" + rest + "\n"
}

// past: a history to which streams were done.
func past(t *testing.T, streams ...string) *history.History {
	t.Helper()
	h := history.New()
	for _, stream := range streams {
		commands, _, err := command.Read(stream + "done\n")
		if err == api.OK {
			_, err = command.Do(h, commands)
		}
		if err != api.OK {
			t.Fatalf("%q: %d", stream, err)
		}
	}
	return h
}

func hold(t *testing.T, h *history.History, by rules.Rules, want string) {
	t.Helper()
	if got, err := Stream(h, by); got != want+"done\n" || err != api.OK {
		t.Errorf("Stream by %v = %d\n%s\nwant\n%s", by, err, got, want)
	}
}

func holdWrong(t *testing.T, h *history.History, by rules.Rules, want api.Errno) {
	t.Helper()
	if got, err := Stream(h, by); got != "" || err != want {
		t.Errorf("Stream by %v = %d bytes, %d, want %d", by, len(got), err, want)
	}
}

func TestStream(t *testing.T) {
	hold(t, history.New(), nil, "")
	first := "blob\nmark :1\ndata 1\nx\n" + commit("m", 2, "M 100644 :1 a\n")
	hold(t, past(t, first), nil, first)
	h := past(t, first, commit("m", 1, "R a b\n"), commit("n", 1, "from m\nmerge m\n"), "reset l\nfrom m\n\ntag v\nfrom n\ndata 1\n\n\n")
	l := "blob\nmark :1\ndata 1\nx\n" + commit("l", 2, "M 100644 :1 a\n") + commit("l", 3, "from :2\nD a\nM 100644 :1 b\n") + "reset m\nfrom :3\n\n"
	hold(t, h, nil, l+commit("n", 4, "from :3\nmerge :3\n")+"tag v\nfrom :4\ndata 1\n\n\n")
	h = past(t, commit("m", 1, "")+"tag v\nfrom m\ndata 0\n\n"+"reset m\n\n")
	hold(t, h, nil, commit("tags", 1, "")+"tag v\nfrom :1\ndata 0\n\nreset tags\n\n")
}

func TestStreamByRules(t *testing.T) {
	h := past(t, commit("m", 1, "M 100644 inline a\ndata 0\n\n"))
	hold(t, h, rules.Rules{{Kind: api.Drop, From: "a"}}, commit("m", 1, ""))
	hold(t, h, rules.Rules{{Kind: api.Move, From: "a", To: "b/c"}}, "blob\nmark :1\ndata 0\n\n"+commit("m", 2, "M 100644 :1 b/c\n"))
	holdWrong(t, h, rules.Rules{{Kind: api.Drop}}, api.ErrRule)
}

// TestTooLong: wherever the history begins to be too long, nothing goes out;
// a wrong rule is told first.
func TestTooLong(t *testing.T) {
	for _, name := range []string{"", "tag v\nfrom m\ndata 0\n\nreset m\n\n"} {
		var streams []string
		for range 57 {
			streams = append(streams, commit("m", 1, ""))
		}
		if _, err := Stream(past(t, append(streams, name)...), nil); err != api.OK {
			t.Errorf("57 commits and %q: %d", name, err)
		}
		for range 4 {
			streams = append(streams, commit("m", 1, ""))
		}
		h := past(t, append(streams, name)...)
		holdWrong(t, h, nil, api.ErrLimit)
		holdWrong(t, h, rules.Rules{{}}, api.ErrRule)
	}
}

// TestTooMuchAddsNothing: once the stream is too much, it does not grow.
func TestTooMuchAddsNothing(t *testing.T) {
	w := &work{past: past(t, commit("m", 1, "")), marks: map[string]int{}, named: map[string]int{}}
	for range 70 {
		w.addReset("r", 0)
	}
	w.addRefs()
	if len(w.commands) != api.MaxCommands || !w.tooMuch {
		t.Errorf("there are %d commands", len(w.commands))
	}
}
