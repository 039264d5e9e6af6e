package xmllex

import (
	"bytes"

	"dossier/api"
	"dossier/chars"
)

// fault is an error and its offset. A scanner raises it, so that what reads a part of a tag needs to return that part only.
type fault struct {
	at  int
	err api.Errno
}

// scanner reads a document piece by piece.
type scanner struct {
	b    []byte
	at   int
	from int // where the present comment, instruction, tag or text begins
}

// scan lets read go on from an offset, and returns the offset after what it has read, or that of the fault.
func scan(b []byte, at int, read func(*scanner)) (end int, err api.Errno) {
	if at < 0 || at > len(b) {
		return 0, api.ErrArg
	}
	defer func() {
		switch f := recover().(type) {
		case nil:
		case fault:
			end, err = f.at, f.err
		default:
			panic(f)
		}
	}()
	s := &scanner{b: b, at: at}
	read(s)
	return s.at, api.OK
}

func (s *scanner) fail(err api.Errno) { panic(fault{s.from, err}) }

// rest returns what has not been read yet.
func (s *scanner) rest() []byte { return s.b[s.at:] }

// take passes a mark if it comes next, and reports whether it does.
func (s *scanner) take(mark string) bool {
	if !bytes.HasPrefix(s.rest(), []byte(mark)) {
		return false
	}
	s.at += len(mark)
	return true
}

func (s *scanner) need(mark string) {
	if !s.take(mark) {
		s.fail(api.ErrMark)
	}
}

// through passes the next mark, and returns everything before it.
func (s *scanner) through(mark string) []byte {
	before, _, found := bytes.Cut(s.rest(), []byte(mark))
	if !found {
		s.fail(api.ErrMark)
	}
	s.at += len(before) + len(mark)
	return before
}

// blanks passes all blanks that come next, and reports whether there are any.
func (s *scanner) blanks() bool {
	from := s.at
	for s.at < len(s.b) && chars.Space(int(s.b[s.at])) {
		s.at++
	}
	return s.at > from
}

// name passes the longest name that comes next.
func (s *scanner) name() {
	r, size := chars.Decode(s.rest())
	if !chars.First(r) {
		s.fail(api.ErrMark)
	}
	for chars.Later(r) {
		s.at += size
		r, size = chars.Decode(s.rest())
	}
}

func (s *scanner) tagName() string {
	from := s.at
	s.name()
	if s.take(":") {
		s.name()
	}
	return string(s.b[from:s.at])
}

// skip passes comments and instructions.
func (s *scanner) skip() {
	for {
		s.from = s.at
		switch {
		case s.take("<!--"):
			s.through("--")
			s.need(">")
		case s.take("<?"):
			s.instruction()
		default:
			return
		}
	}
}

func (s *scanner) instruction() {
	s.name()
	if s.take("?>") {
		return
	}
	if !s.blanks() {
		s.fail(api.ErrMark)
	}
	s.through("?>")
}

// token reads what skip has stopped at.
func (s *scanner) token() api.Token {
	switch {
	case s.at == len(s.b):
		return api.Token{Kind: api.TokEnd}
	case s.take("<![CDATA["):
		return api.Token{Kind: api.TokText, Text: string(lines(s.through("]]>")))}
	case s.take("<!DOCTYPE"):
		s.fail(api.ErrType)
	case s.take("</"):
		return s.closing()
	case s.take("<"):
		return s.opening()
	}
	return s.data()
}

func (s *scanner) closing() api.Token {
	name := s.tagName()
	s.blanks()
	s.need(">")
	return api.Token{Kind: api.TokClose, Name: name}
}

func (s *scanner) opening() api.Token {
	t := api.Token{Kind: api.TokOpen, Name: s.tagName()}
	for {
		apart := s.blanks()
		switch {
		case s.take(">"):
			return t
		case s.take("/>"):
			t.Empty = true
			return t
		case !apart:
			s.fail(api.ErrMark)
		}
		t.Attrs = append(t.Attrs, s.attribute())
	}
}

func (s *scanner) attribute() api.Attr {
	name := s.tagName()
	s.blanks()
	s.need("=")
	s.blanks()
	return api.Attr{Name: name, Value: s.value()}
}

func (s *scanner) value() string {
	quote := "'"
	if !s.take(quote) {
		quote = `"`
		s.need(quote)
	}
	raw := s.through(quote)
	if bytes.Contains(raw, []byte("<")) {
		s.fail(api.ErrMark)
	}
	return s.resolved(flat(raw))
}

// data reads character data.
func (s *scanner) data() api.Token {
	raw, _, _ := bytes.Cut(s.rest(), []byte("<"))
	if bytes.Contains(raw, []byte("]]>")) {
		s.fail(api.ErrMark)
	}
	s.at += len(raw)
	return api.Token{Kind: api.TokText, Text: s.resolved(raw)}
}

func (s *scanner) resolved(raw []byte) string {
	text, _, err := Unescape(raw)
	if err != api.OK {
		s.fail(err)
	}
	return text
}
