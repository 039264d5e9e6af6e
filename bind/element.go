package bind

import (
	"strings"

	"dossier/api"
	"dossier/chars"
	"dossier/show"
	"dossier/xmltree"
)

// chosen returns those kids of an element that are read and whose name is right. They share memory with it, since each level would copy all that is below it otherwise.
func chosen(e api.Element, right func(name string) bool) []api.Element {
	var l []api.Element
	for _, kid := range e.Kids {
		if kid.Space == show.Space && right(kid.Name) {
			l = append(l, kid)
		}
	}
	return l
}

// parts returns the parts of an element that have a name.
func parts(e api.Element, name string) []api.Element {
	return chosen(e, func(s string) bool { return s == name })
}

// only returns the part with a name, of which there must be one.
func only(e api.Element, name string) api.Element {
	l := parts(e, name)
	need(len(l) == 1, api.ErrModel)
	return l[0]
}

// optional returns the part with a name, of which there may be one, and whether there is one.
func optional(e api.Element, name string) (api.Element, bool) {
	l := parts(e, name)
	need(len(l) <= 1, api.ErrModel)
	if len(l) == 0 {
		return api.Element{}, false
	}
	return l[0], true
}

// part returns the part with a name, of which there may be one; if there is none, an element without parts.
func part(e api.Element, name string) api.Element {
	p, _ := optional(e, name)
	return p
}

// byID returns elements by their IDs. Of equal ones the first one counts.
func byID(l []api.Element) map[string]api.Element {
	m := map[string]api.Element{}
	for _, e := range l {
		id := get(e, "id")
		if _, is := m[id]; !is {
			m[id] = e
		}
	}
	return m
}

// get returns the value of an attribute, "" if there is none.
func get(e api.Element, name string) string {
	s, _ := xmltree.Get(e, name)
	return s
}

// flag returns the value of an attribute that is "true", "false" or "".
func flag(e api.Element, name string) string {
	s := get(e, name)
	need(s == "true" || s == "false" || s == "", api.ErrModel)
	return s
}

// words returns the words of an attribute, nil if there are none.
func words(e api.Element, name string) []string {
	l := strings.FieldsFunc(get(e, name), func(r rune) bool { return chars.Space(int(r)) })
	if len(l) == 0 {
		return nil
	}
	return l
}
