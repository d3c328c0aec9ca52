package braid_test

import (
	"bytes"
	"math/rand"
	"slices"
	"strconv"
	"strings"
	"testing"

	"braid/api"
	"braid/braid"
	"braid/journal"
)

// moment: what a store told, and its bytes then.
type moment struct {
	told  told
	bytes []byte
}

func momentOf(s *braid.Store) moment { return moment{tell(s), s.Bytes()} }

// lived: a store that took streams (some of them are wrong), and what it was
// at first and behind each one that it took.
func lived(streams []string) (*braid.Store, []moment) {
	s := braid.New()
	all := []moment{momentOf(s)}
	for _, stream := range streams {
		if _, err := s.Import(stream); err == api.OK {
			all = append(all, momentOf(s))
		}
	}
	return s, all
}

// life: streams that make, move and take away all that a store has, and wrong
// ones between.
func life() []string {
	return []string{
		example, "x", "done\n", "blob\nmark :1\ndata 2\nhi\ndone\n",
		onRef("main", 1) + inline("d/g", "1") + "\ntag v\nfrom main\n" + data("m") + "done\n",
		"reset x\nfrom main\n\nreset y\nfrom nothing\n\ndone\n", "reset x\nfrom main\n\ndone\n", "reset x\nfrom main\n\ndone\n",
		"reset main\n\n" + marked(1, "end") + "done\n", "tag v\nfrom x\n" + data("done\n") + "done\n",
		onRef("main", 1) + "from x\nmerge x\nR d e\n\ndone\n", onRef("main", 1) + "C no x\n\ndone\n",
		onRef("main", 999) + "deleteall\n\ndone\n", strings.Repeat(reset, 60) + "done\n",
	}
}

func holdMoment(t *testing.T, what string, s *braid.Store, want moment) {
	t.Helper()
	if !same(tell(s), want.told) {
		t.Errorf("P9: %s: the store has\n%v\nwant\n%v", what, tell(s), want.told)
	}
	if got := s.Bytes(); !bytes.Equal(got, want.bytes) {
		t.Errorf("P9: %s: the store has %d bytes, want %d", what, len(got), len(want.bytes))
	}
}

func opened(t *testing.T, b []byte) *braid.Store {
	t.Helper()
	s, err := braid.Open(b)
	if s == nil || err != api.OK {
		t.Fatalf("P9: Open(%d bytes) = %v, %d", len(b), s, err)
	}
	return s
}

// P8: bytes are only added, and none by what is not answered OK or only asks.
func TestBytesOnlyGrow(t *testing.T) {
	s := braid.New()
	refused := map[api.Errno]int{}
	streams := append(life(), seeds()...)
	streams = append(streams, strings.Repeat("x", 8001), "", onRef("main", 1)+inline("a", "")+"\n"+onRef("main", 1)+"\ndone\n", head+"M 100644 :7 a\n\ndone\n",
		onRef("q", 1)+inline("a/b", "")+"C a a/b/c/d/e/f\n\ndone\n")
	for _, stream := range streams {
		before, toldBefore := s.Bytes(), tell(s)
		_, err := s.Import(stream)
		after := s.Bytes()
		if !bytes.HasPrefix(after, before) {
			t.Fatalf("P8: behind %.60q the bytes do not begin with those ahead of it", stream)
		}
		if err != api.OK && len(after) != len(before) {
			t.Errorf("P8: %.60q was refused, but has added bytes", stream)
		}
		if !same(tell(s), toldBefore) && len(after) == len(before) {
			t.Errorf("P8: %.60q has changed the store, but added no bytes", stream)
		}
		refused[err]++
		s.Object(hiBlob)
		s.Files(exampleId)
		s.Export()
		braid.Check(stream)
		if !bytes.Equal(s.Bytes(), after) {
			t.Error("P8: a call that only asks has added bytes")
		}
	}
	for _, err := range []api.Errno{api.OK, api.ErrForm, api.ErrLimit, api.ErrTwice, api.ErrMark, api.ErrNone} {
		if refused[err] == 0 {
			t.Errorf("no stream was answered %d", err)
		}
	}
}

// P9: of a store's bytes, and of their beginnings, however long.
func TestOpenBeginnings(t *testing.T) {
	s, moments := lived(life())
	whole := s.Bytes()
	at := 0
	for n := range len(whole) + 1 {
		for at+1 < len(moments) && len(moments[at+1].bytes) <= n {
			at++
		}
		holdMoment(t, "a beginning", opened(t, whole[:n]), moments[at])
	}
	if at != len(moments)-1 {
		t.Errorf("P9: all bytes give the store as it was behind %d streams of %d", at, len(moments)-1)
	}
}

// P9: a store that was opened goes on as the other one did, also one that was
// opened of a piece and goes on from there.
func TestOpenGoesOn(t *testing.T) {
	streams := life()
	for i := range streams {
		s, moments := lived(streams[:i])
		b := s.Bytes()
		x := opened(t, b)
		for _, stream := range streams[i:] {
			n, err := s.Import(stream)
			if gotN, gotErr := x.Import(stream); gotN != n || gotErr != err {
				t.Errorf("P9: Import(%q) behind Open = %d, %d, want %d, %d", stream, gotN, gotErr, n, err)
			}
			holdMoment(t, "gone on", x, momentOf(s))
		}
		if len(moments) == 1 {
			continue
		}
		cut := opened(t, b[:len(b)-1])
		holdMoment(t, "cut", cut, moments[len(moments)-2])
		taken(t, cut, onRef("else", 5)+inline("z", "z")+"\n")
		holdMoment(t, "cut, gone on and opened", opened(t, cut.Bytes()), momentOf(cut))
	}
}

// P5, P9: marks of a stream are not known behind Open; refs are.
func TestOpenKnowsNoMarks(t *testing.T) {
	s := braid.New()
	holdImport(t, s, example, 2, api.OK)
	x := opened(t, s.Bytes())
	holdImport(t, x, "reset x\nfrom :2\n\ndone\n", 1, api.ErrMark)
	holdImport(t, x, head+"M 100644 :1 a\n\ndone\n", 1, api.ErrMark)
	holdImport(t, x, onRef("n", 2)+"from main\n"+inline("e", "5")+"\n"+marked(1, "")+"done\n", 2, api.OK)
	if got := lies(t, x, "n"); got != "d/f=hi e=5" {
		t.Errorf("P9: the files are %s", got)
	}
}

// P8, P9: the bytes of an empty store, and none.
func TestOpenEmpty(t *testing.T) {
	want := momentOf(braid.New())
	for _, b := range [][]byte{nil, {}, braid.New().Bytes()} {
		holdMoment(t, "an empty store", opened(t, b), want)
	}
}

// great: a stream of as many bytes as there may be.
func great() string {
	text := ""
	for mark := 1; len(text) < 7500; mark++ {
		text += marked(mark, strings.Repeat("\n", 200))
	}
	rest := api.MaxStream - len(text+onRef("n", 999)+inline("a", strings.Repeat("x", 100))+"\ndone\n")
	text += onRef("n", 999)
	for ; rest > 120; rest -= len(inline("a", strings.Repeat("x", 100))) {
		text += inline("a", strings.Repeat("x", 100))
	}
	return text + inline("a", strings.Repeat("x", 100+rest)) + "\ndone\n"
}

// P8, P9: streams as great as they may be.
func TestOpenGreat(t *testing.T) {
	many := onRef("m", 1)
	for i := range 30 {
		many += inline(strings.Repeat("d/", i%6)+strconv.Itoa(i), strings.Repeat("\n", i))
	}
	streams := []string{great(), many + "\ndone\n", onRef("m", 1) + "C d e\n\n" + strings.Repeat(reset, 59) + "done\n"}
	if len(streams[0]) != api.MaxStream {
		t.Fatalf("the stream has %d bytes", len(streams[0]))
	}
	s, moments := lived(streams)
	if len(moments) != 4 {
		t.Fatalf("%d of the streams were taken", len(moments)-1)
	}
	b := s.Bytes()
	for i, m := range moments {
		end := len(m.bytes)
		holdMoment(t, "whole", opened(t, b[:end]), m)
		if i > 0 {
			holdMoment(t, "a byte less", opened(t, b[:end-1]), moments[i-1])
		}
		if i+1 < len(moments) {
			holdMoment(t, "a byte more", opened(t, b[:end+1]), m)
		}
	}
}

// P8, P9: histories of many streams, held against the model.
func TestOpenRandom(t *testing.T) {
	r := rand.New(rand.NewSource(2))
	for range 25 {
		s, m := braid.New(), newModel()
		moments := []moment{{m.told(), s.Bytes()}}
		for range 10 {
			text, _, err, next := maker{r, m}.stream()
			if _, got := s.Import(text); got != err {
				t.Fatalf("P4: Import(%q): %d, want %d", text, got, err)
			}
			m = next
			if err == api.OK {
				moments = append(moments, moment{m.told(), s.Bytes()})
			}
			if r.Intn(4) == 0 {
				s = opened(t, s.Bytes())
			}
		}
		b := s.Bytes()
		for range 20 {
			n := r.Intn(len(b) + 1)
			at, _ := slices.BinarySearchFunc(moments, n+1, func(m moment, n int) int { return len(m.bytes) - n })
			holdMoment(t, "at random", opened(t, b[:n]), moments[at-1])
		}
		holdMoment(t, "all", opened(t, b), moments[len(moments)-1])
	}
}

// holdOther: Open of bytes that no store gave: ErrStore, or a store that is
// one in all respects.
func holdOther(t *testing.T, b []byte) api.Errno {
	t.Helper()
	s, err := braid.Open(b)
	if s == nil {
		if err != api.ErrStore {
			t.Errorf("P9: Open(%d bytes) = nil, %d", len(b), err)
		}
		return err
	}
	if err != api.OK {
		t.Errorf("P1: Open(%d bytes) gives a store, and %d", len(b), err)
	}
	for _, ref := range s.Refs() {
		if _, err := s.Files(ref.Id); err != api.OK {
			t.Errorf("P9: the ref %s is of no commit", ref.Name)
		}
	}
	for _, tag := range s.Tags() {
		if kind, _, err := s.Object(tag.Id); kind != api.Tag || err != api.OK {
			t.Errorf("P9: the tag %s is of no tag's object", tag.Name)
		}
	}
	before := momentOf(s)
	taken(t, s, onRef("new", 1)+inline("a", "1")+"\n")
	if !bytes.HasPrefix(s.Bytes(), before.bytes) {
		t.Error("P8: the bytes do not begin with those ahead of Import")
	}
	holdMoment(t, "other bytes", opened(t, s.Bytes()), momentOf(s))
	return err
}

// P1, P9: bytes that were altered, taken out, put in, and any.
func TestOpenOther(t *testing.T) {
	r := rand.New(rand.NewSource(3))
	s, moments := lived(life())
	b := s.Bytes()
	answers := map[api.Errno]int{}
	for range 3000 {
		text := string(b)
		for range 1 + r.Intn(3) {
			text = mutate(r, text)
		}
		answers[holdOther(t, []byte(text))]++
	}
	for _, m := range moments[1:] {
		answers[holdOther(t, append(slices.Clone(m.bytes), b...))]++
		answers[holdOther(t, b[len(m.bytes):])]++
	}
	for range 300 {
		any := make([]byte, r.Intn(100))
		r.Read(any)
		answers[holdOther(t, any)]++
	}
	for _, text := range oddTexts() {
		answers[holdOther(t, []byte(text))]++
	}
	if answers[api.OK] == 0 || answers[api.ErrStore] < 1000 {
		t.Errorf("the bytes are too much alike: %v", answers)
	}
}

// P9: bytes in the middle that were altered are not taken for other streams.
func TestOpenSeesAltered(t *testing.T) {
	s, moments := lived(life())
	b := s.Bytes()
	at := 0
	for i := range b {
		for at+1 < len(moments) && len(moments[at+1].bytes) <= i {
			at++
		}
		other := slices.Clone(b)
		other[i] ^= 1
		if x, err := braid.Open(other); err == api.OK {
			holdMoment(t, "an altered byte", x, moments[at])
		}
	}
}

// P1, P9: bytes with seals that are right, but with a stream that no store can
// have taken there.
func TestOpenWrongStreams(t *testing.T) {
	for _, stream := range []string{
		"x", "done", "done\nx", "reset y\nfrom nothing\n\ndone\n", "reset y\nfrom :2\n\ndone\n", onRef("main", 1) + "C no x\n\ndone\n",
		blob("") + blob("") + "done\n", strings.Repeat(reset, 61) + "done\n", strings.Repeat("x", 8001),
	} {
		var j journal.Journal
		j.Add(example)
		j.Add(stream)
		j.Add(example)
		if s, err := braid.Open(j.Bytes()); s != nil || err != api.ErrStore {
			t.Errorf("P9: Open with the stream %.40q = %v, %d", stream, s, err)
		}
	}
}

// P2: what Bytes answers is new memory; what Open is given is neither changed
// nor kept, its spare room neither.
func TestBytesAreNotShared(t *testing.T) {
	s, moments := lived(life())
	want := moments[len(moments)-1]
	spoil(s.Bytes(), 99)
	holdMoment(t, "spoilt answers", s, want)
	room := append(s.Bytes(), "spare room"...)
	before := slices.Clone(room)
	x := opened(t, room[:len(want.bytes)])
	if !bytes.Equal(room, before) {
		t.Error("P2: Open has changed what it was given")
	}
	taken(t, x, onRef("new", 1)+inline("a", "1")+"\n")
	if !bytes.Equal(room, before) {
		t.Error("P2: what came behind Open has changed what it was given")
	}
	x = opened(t, room[:len(want.bytes)])
	spoil(room, 88)
	holdMoment(t, "spoilt bytes", x, want)
	answer := x.Bytes()
	taken(t, x, onRef("new", 1)+inline("a", "1")+"\n")
	if !bytes.Equal(answer, want.bytes) {
		t.Error("P2: a later call has changed an answer")
	}
}

// P2: stores that were opened of the same bytes do not hang on each other.
func TestOpenTwice(t *testing.T) {
	s, moments := lived(life())
	want := moments[len(moments)-1]
	b := s.Bytes()
	x, y := opened(t, b), opened(t, b)
	taken(t, x, "reset main\n\n")
	taken(t, x, onRef("new", 1)+inline("a", "1")+"\n")
	holdMoment(t, "the other one", y, want)
	holdMoment(t, "the first one", s, want)
}

// FuzzOpen: whatever the bytes, Open ends, and what it gives is a store.
func FuzzOpen(f *testing.F) {
	s, moments := lived(life())
	for _, m := range moments {
		f.Add(m.bytes)
	}
	f.Add(s.Bytes()[:100])
	f.Fuzz(func(t *testing.T, b []byte) { holdOther(t, b) })
}
