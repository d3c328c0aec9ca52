// Package braid: a store of histories: see DOC.md.
package braid

import (
	"braid/api"
	"braid/command"
)

// Check tells whether a text is a stream (P3).
func Check(stream string) (int, api.Errno) {
	_, n, err := command.Read(stream)
	return n, err
}

// Store is one.
type Store struct{}

// New makes an empty store (P4).
func New() *Store { return nil }

// Import does what a stream says (P4, P5).
func (s *Store) Import(stream string) (int, api.Errno) { return 0, api.OK }

// Refs tells all refs (P6).
func (s *Store) Refs() []api.Ref { return nil }

// Tags tells all tags (P6).
func (s *Store) Tags() []api.Ref { return nil }

// Ids tells all objects (P6).
func (s *Store) Ids() []string { return nil }

// Object tells one (P6).
func (s *Store) Object(id string) (int, string, api.Errno) { return 0, "", api.OK }

// Files tells what lies in a commit (P7).
func (s *Store) Files(id string) ([]string, api.Errno) { return nil, api.OK }

// Bytes tells the store as bytes (P8).
func (s *Store) Bytes() []byte { return nil }

// Open makes a store of bytes (P9).
func Open(b []byte) (*Store, api.Errno) { return nil, api.OK }

// Export makes a stream of all that is named (P10, P11).
func (s *Store) Export(rules ...api.Rule) (string, api.Errno) { return "", api.OK }
