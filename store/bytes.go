package store

import (
	"bytes"
	"slices"

	"dossier/api"
	"dossier/codec"
	"dossier/wire"
)

// Encode returns the encoding of a store.
func (s *Store) Encode() []byte {
	if !s.made() {
		return nil
	}
	ids := s.models.IDs()
	b := wire.Int(wire.Int(nil, s.most), len(ids))
	for _, id := range ids {
		document, _ := s.models.Document(id)
		b = append(b, wire.Text(nil, string(document))...)
	}
	b = append(b, wire.Int(nil, len(s.cases))...)
	for _, c := range s.cases {
		b = append(b, codec.Case(nil, c)...)
	}
	return b
}

// Decode returns the store that is encoded as b.
func Decode(b []byte) (*Store, api.Errno) {
	r := wire.Open(b)
	s, err := New(r.Int(1, api.MaxInst)) // a reader with an error returns 0
	if err != api.OK || !s.readModels(r) {
		return nil, api.ErrLog
	}
	n := r.Int(0, api.MaxCases)
	if r.Err() != api.OK || !s.readCases(b[len(b)-r.Left():], n) {
		return nil, api.ErrLog
	}
	return s, api.OK
}

// readModels deploys the models that a reader comes to, and reports whether they are as Encode writes them, as far as it can read.
func (s *Store) readModels(r *wire.Reader) bool {
	for range r.Int(0, api.MaxModels) {
		read := []byte(r.Text(api.MaxText))
		id, _, err := s.models.Deploy(read)
		printed, _ := s.models.Document(id)
		if err != api.OK || !bytes.Equal(read, printed) {
			return false
		}
	}
	return true
}

// readCases adds n cases, and reports whether b consists of them, as Encode writes them.
func (s *Store) readCases(b []byte, n int) bool {
	ids := s.models.IDs()
	for k := range n {
		c, rest, err := codec.ReadCase(b)
		if err != api.OK || len(c.Insts) == 0 || c.ID != k+1 || !slices.Contains(ids, c.Model) {
			return false
		}
		s.cases = append(s.cases, c)
		b = rest
	}
	return len(b) == 0
}
