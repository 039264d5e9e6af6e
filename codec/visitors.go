package codec

import (
	"math"

	"dossier/api"
	"dossier/value"
	"dossier/wire"
)

// A writer appends the encodings of fields to bytes of its own. It takes them as they are, whatever the limits.
type writer struct{ b []byte }

func (w *writer) number(n *int, _ int)  { w.add(wire.Int(nil, *n)) }
func (w *writer) text(s *string, _ int) { w.add(wire.Text(nil, *s)) }
func (w *writer) flag(is *bool)         { w.add(wire.Flag(nil, *is)) }
func (w *writer) value(v *api.Value)    { w.add(value.Write(nil, *v)) }
func (w *writer) add(piece []byte)      { w.b = append(w.b, piece...) }

// A reader fills fields from bytes. Besides the errors of what it embeds, it has that of a value that is not valid.
type reader struct {
	*wire.Reader
	odd bool // such a value came ahead of any other error
}

func open(b []byte) *reader { return &reader{Reader: wire.Open(b)} }

func (r *reader) number(n *int, most int)  { *n = r.Int(0, most) }
func (r *reader) text(s *string, most int) { *s = r.Text(most) }
func (r *reader) flag(is *bool)            { *is = r.Flag() }

func (r *reader) value(v *api.Value) {
	v.Kind = r.Int(math.MinInt, math.MaxInt)
	switch v.Kind {
	case api.KindInt:
		v.Int = r.Int(math.MinInt, math.MaxInt)
	case api.KindBool:
		v.Bool = r.Flag()
	case api.KindText:
		v.Text = r.Text(math.MaxInt) // one that is too long makes a value that is not valid
	}
	if r.Err() == api.OK && !value.Can(*v) {
		r.odd = true
	}
}

// Err returns the first error.
func (r *reader) Err() api.Errno {
	if r.odd {
		return api.ErrForm
	}
	return r.Reader.Err()
}

// End returns the first error, or ErrForm if bytes remain.
func (r *reader) End() api.Errno {
	if r.odd {
		return api.ErrForm
	}
	return r.Reader.End()
}
