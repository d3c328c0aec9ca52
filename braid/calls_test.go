package braid_test

import (
	"bytes"
	"slices"
	"strings"
	"testing"

	"braid/api"
	"braid/braid"
)

func oddTexts() []string {
	return append(seeds(),
		"", "\x00", "\xff\xfe", "x", "done", "\n", strings.Repeat("f", 64), strings.Repeat("f", 63)+"g",
		strings.Repeat("\n", 9000), strings.Repeat("blob\n", 2000), "blob\nmark :1\ndata 9223372036854775807\n\ndone\n",
		"blob\nmark :1\ndata -9223372036854775808\n\ndone\n")
}

func oddRules() []api.Rule {
	return []api.Rule{
		{}, {Kind: -1}, {Kind: api.Drop}, {Kind: api.Drop, From: "a"}, {Kind: api.Move, From: "a", To: "b/c"},
		{Kind: api.Move, From: "/", To: ".."}, {Kind: api.Author, From: "a", To: "b", Name: "C"},
		{Kind: api.Author, From: "\xff", Name: " "}, {Kind: 4, From: "a"}, {Kind: api.Drop, From: "a"},
	}
}

// stores: what New and Open gave.
func stores(t *testing.T) []*braid.Store {
	t.Helper()
	full := braid.New()
	for _, stream := range append(seeds(), strings.TrimSuffix(example, "done\n")+"tag v\nfrom :2\n"+empty+"done\n") {
		full.Import(stream)
	}
	all := []*braid.Store{braid.New(), full}
	b := full.Bytes()
	for _, text := range append(oddTexts(), string(braid.New().Bytes()), string(b), string(b[:len(b)/2]), string(b)+"x") {
		if s, err := braid.Open([]byte(text)); err == api.OK {
			all = append(all, s)
		}
	}
	return all
}

// P1: every call ends, at all texts, bytes and lists.
func TestNoCallPanics(t *testing.T) {
	for _, s := range stores(t) {
		for _, text := range oddTexts() {
			braid.Check(text)
			s.Import(text)
			s.Object(text)
			s.Files(text)
		}
		s.Refs()
		s.Tags()
		s.Ids()
		s.Bytes()
		s.Export()
		s.Export(oddRules()...)
		for _, rule := range oddRules() {
			s.Export(rule)
		}
	}
	braid.Open(nil)
}

// P2: lists that are handed in are not changed, their spare room neither.
func TestListsStay(t *testing.T) {
	for _, text := range oddTexts() {
		b := []byte(text + "spare room")
		braid.Open(b[:len(text)])
		if !bytes.Equal(b, []byte(text+"spare room")) {
			t.Errorf("P2: Open(%.40q) changed its argument", text)
		}
	}
	for _, s := range stores(t) {
		for n := range len(oddRules()) + 1 {
			rules := oddRules()
			s.Export(rules[:n]...)
			if !slices.Equal(rules, oddRules()) {
				t.Errorf("P2: Export of %d rules changed its argument", n)
			}
		}
	}
}
