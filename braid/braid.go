// Package braid: a store of histories: see DOC.md.
package braid

import (
	"braid/api"
	"braid/command"
	"braid/export"
	"braid/history"
	"braid/journal"
)

// Check tells whether a text is a stream (P3).
func Check(stream string) (int, api.Errno) {
	_, n, err := command.Read(stream)
	return n, err
}

// Store is one.
type Store struct {
	past    *history.History
	journal journal.Journal
}

// New makes an empty store (P4).
func New() *Store { return &Store{past: history.New()} }

// Import does what a stream says (P4, P5).
func (s *Store) Import(stream string) (int, api.Errno) {
	commands, n, err := command.Read(stream)
	if err != api.OK {
		return n, err
	}
	n, err = command.Do(s.past, commands)
	if err == api.OK {
		s.journal.Add(stream)
	}
	return n, err
}

// Refs tells all refs (P6).
func (s *Store) Refs() []api.Ref { return s.past.Refs() }

// Tags tells all tags (P6).
func (s *Store) Tags() []api.Ref { return s.past.Tags() }

// Ids tells all objects (P6).
func (s *Store) Ids() []string { return s.past.Ids() }

// Object tells one (P6).
func (s *Store) Object(id string) (int, string, api.Errno) {
	object, ok := s.past.Object(id)
	if !ok {
		return 0, "", api.ErrNone
	}
	return object.Kind, object.Content, api.OK
}

// Files tells what lies in a commit (P7).
func (s *Store) Files(id string) ([]string, api.Errno) {
	commit, ok := s.past.Commit(id)
	if !ok {
		return nil, api.ErrNone
	}
	var all []string
	for _, f := range commit.Files {
		all = append(all, f.Mode+" "+f.Blob+" "+f.Path)
	}
	return all, api.OK
}

// Bytes tells the store as bytes (P8).
func (s *Store) Bytes() []byte { return s.journal.Bytes() }

// Open makes a store of bytes (P9): what the streams in them did once, they do
// again.
func Open(b []byte) (*Store, api.Errno) {
	streams, err := journal.Read(b)
	if err != api.OK {
		return nil, err
	}
	s := New()
	for _, stream := range streams {
		if _, err := s.Import(stream); err != api.OK {
			return nil, api.ErrStore
		}
	}
	return s, api.OK
}

// Export makes a stream of all that is named (P10, P11).
func (s *Store) Export(rules ...api.Rule) (string, api.Errno) {
	return export.Stream(s.past, rules)
}
