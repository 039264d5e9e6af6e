package xmltree

import (
	"dossier/api"
	"dossier/chars"
	"dossier/xmllex"
)

// Can reports whether an element can be written.
func Can(e api.Element) bool { return writable(e, 0) }

// writable reports whether an element that is nested in outer others can be written.
func writable(e api.Element, outer int) bool {
	if outer >= api.MaxDepth || len(e.Kids) > api.MaxKids || len(e.Attrs) > api.MaxKids {
		return false
	}
	if !chars.Name(e.Name) || !clean(e.Space) || !clean(e.Text) || e.Space == xmlSpace || e.Space == xmlnsSpace {
		return false
	}
	if len(e.Kids) > 0 && e.Text != "" && blank(e.Text) {
		return false
	}
	for _, a := range e.Attrs {
		if !writableAttr(a) {
			return false
		}
	}
	if twice(keys(e.Attrs)) {
		return false
	}
	for _, kid := range e.Kids {
		if !writable(kid, outer+1) {
			return false
		}
	}
	return true
}

func writableAttr(a api.Pair) bool {
	declaration := a.Space == "" && a.Name == "xmlns"
	return !declaration && chars.Name(a.Name) && clean(a.Space) && clean(a.Value) && a.Space != xmlnsSpace
}

// clean reports whether s consists of XML characters.
func clean(s string) bool { return chars.Wrong([]byte(s)) < 0 }

// Write returns an element's document.
func Write(e api.Element) ([]byte, api.Errno) {
	if !Can(e) {
		return nil, api.ErrArg
	}
	var w writer
	w.element(e, "")
	if w.full {
		return nil, api.ErrFull
	}
	return w.out, api.OK
}

// writer writes a document until it is longer than it may be.
type writer struct {
	out  []byte
	full bool
}

func (w *writer) put(parts ...string) {
	for _, s := range parts {
		if len(s) > api.MaxText-len(w.out) {
			w.full = true
		}
		if w.full {
			return
		}
		w.out = append(w.out, s...)
	}
}

// text writes s escaped, which never makes it shorter.
func (w *writer) text(s string) {
	if len(s) > api.MaxText {
		w.full = true
		return
	}
	w.put(xmllex.Escape(s))
}

func (w *writer) attribute(name, value string) {
	w.put(" ", name, `="`)
	w.text(value)
	w.put(`"`)
}

// element writes e into an element of the namespace around.
func (w *writer) element(e api.Element, around string) {
	w.put("<", e.Name)
	if e.Space != around {
		w.attribute("xmlns", e.Space)
	}
	for i, a := range e.Attrs {
		if a.Space != "" && a.Space != xmlSpace {
			w.attribute("xmlns:"+prefix(i), a.Space)
		}
	}
	for i, a := range e.Attrs {
		w.attribute(qualified(a, i), a.Value)
	}
	if e.Text == "" && len(e.Kids) == 0 {
		w.put("/>")
		return
	}
	w.put(">")
	w.text(e.Text)
	for _, kid := range e.Kids {
		w.element(kid, e.Space)
	}
	w.put("</", e.Name, ">")
}

// prefix returns the prefix that the attribute with index i declares for itself.
func prefix(i int) string { return "n" + chars.Text(i) }

// qualified returns the written name of the attribute with index i.
func qualified(a api.Pair, i int) string {
	switch a.Space {
	case "":
		return a.Name
	case xmlSpace:
		return "xml:" + a.Name
	}
	return prefix(i) + ":" + a.Name
}
