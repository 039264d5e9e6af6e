package xmltree

import (
	"strings"

	"dossier/api"
	"dossier/xmllex"
)

// mostAttrs is what Write needs at most: the attributes, a namespace for each, and that of the element.
const mostAttrs = 2*api.MaxKids + 1

// fault is an error and its offset: a parser raises it, wherever it is in the tree, and Parse catches it.
type fault struct {
	at  int
	err api.Errno
}

// token is a token and where it begins.
type token struct {
	api.Token
	from int
}

func (t token) fail(err api.Errno) { panic(fault{t.from, err}) }

// declaration gives a prefix its namespace, "" being the prefix of element names without one.
type declaration struct{ prefix, space string }

type parser struct {
	b      []byte
	at     int
	spaces []declaration // of the open elements, the outermost first
}

func (p *parser) next() token {
	from, _ := xmllex.Skip(p.b, p.at)
	t, end, err := xmllex.Next(p.b, from)
	if err != api.OK {
		panic(fault{end, err})
	}
	p.at = end
	return token{t, from}
}

func (p *parser) document() api.Element {
	var root api.Element
	found := false
	for {
		t := p.next()
		switch {
		case t.Kind == api.TokOpen && !found:
			root = p.element(t, 0)
			found = true
		case t.Kind == api.TokEnd && found:
			return root
		case t.Kind != api.TokText || !blank(t.Text):
			t.fail(api.ErrNest)
		}
	}
}

// element reads an element that is nested in outer others, from its opening tag on.
func (p *parser) element(tag token, outer int) api.Element {
	if outer >= api.MaxDepth || len(tag.Attrs) > mostAttrs {
		tag.fail(api.ErrFull)
	}
	depth := len(p.spaces)
	e := p.begin(tag)
	if !tag.Empty {
		p.content(&e, tag, outer)
	}
	p.spaces = p.spaces[:depth]
	return e
}

// begin returns an element without its content, and declares its namespaces.
func (p *parser) begin(tag token) api.Element {
	if twice(written(tag)) {
		tag.fail(api.ErrTwice)
	}
	for _, a := range tag.Attrs {
		if prefix, is := declares(a.Name); is {
			p.declare(tag, declaration{prefix, a.Value})
		}
	}
	prefix, name := split(tag.Name)
	e := api.Element{Space: p.space(tag, prefix), Name: name}
	for _, a := range tag.Attrs {
		if _, is := declares(a.Name); !is {
			e.Attrs = append(e.Attrs, p.pair(tag, a))
		}
	}
	if twice(keys(e.Attrs)) {
		tag.fail(api.ErrTwice)
	}
	return e
}

// content reads everything up to the closing tag into e.
func (p *parser) content(e *api.Element, tag token, outer int) {
	var text strings.Builder
	for {
		t := p.next()
		switch {
		case t.Kind == api.TokText:
			text.WriteString(t.Text)
		case t.Kind == api.TokOpen:
			if len(e.Kids) >= api.MaxKids {
				t.fail(api.ErrFull)
			}
			e.Kids = append(e.Kids, p.element(t, outer+1))
		case t.Kind == api.TokClose && t.Name == tag.Name:
			if s := text.String(); len(e.Kids) == 0 || !blank(s) {
				e.Text = s
			}
			return
		default:
			t.fail(api.ErrNest)
		}
	}
}

func (p *parser) declare(tag token, d declaration) {
	if d.prefix == "xml" || d.prefix == "xmlns" || d.prefix != "" && d.space == "" {
		tag.fail(api.ErrSpace)
	}
	p.spaces = append(p.spaces, d)
}

// space returns the namespace of a prefix.
func (p *parser) space(tag token, prefix string) string {
	if prefix == "xml" {
		return xmlSpace
	}
	for i := len(p.spaces) - 1; i >= 0; i-- {
		if p.spaces[i].prefix == prefix {
			return p.spaces[i].space
		}
	}
	if prefix != "" {
		tag.fail(api.ErrSpace)
	}
	return ""
}

// pair returns an attribute with its namespace: without a prefix it has none.
func (p *parser) pair(tag token, a api.Attr) api.Pair {
	prefix, name := split(a.Name)
	if prefix == "" {
		return api.Pair{Name: name, Value: a.Value}
	}
	return api.Pair{Space: p.space(tag, prefix), Name: name, Value: a.Value}
}

// written returns the names of a tag's attributes as they are written.
func written(tag token) []string {
	var l []string
	for _, a := range tag.Attrs {
		l = append(l, a.Name)
	}
	return l
}

// declares reports whether an attribute is a declaration, and of which prefix.
func declares(attr string) (string, bool) {
	if attr == "xmlns" {
		return "", true
	}
	return strings.CutPrefix(attr, "xmlns:")
}

// split returns the prefix of a tag name, "" if it has none, and the rest.
func split(name string) (string, string) {
	if prefix, rest, found := strings.Cut(name, ":"); found {
		return prefix, rest
	}
	return "", name
}
