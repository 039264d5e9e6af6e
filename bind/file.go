package bind

import (
	"slices"
	"strings"

	"dossier/api"
)

// A place is where a definition of the case file stands. Its path is put together on demand: all paths of definitions that are nested too deeply would be long.
type place struct {
	name string
	up   *place
}

func (p *place) path() string {
	var names []string
	for ; p != nil; p = p.up {
		names = append(names, p.name)
	}
	slices.Reverse(names)
	return strings.Join(names, ".")
}

// files returns the definitions that an element lists.
func (r *reader) files(e api.Element, up *place) []api.FileItem {
	var l []api.FileItem
	for _, item := range parts(e, "caseFileItem") {
		l = append(l, r.file(item, up))
	}
	return l
}

func (r *reader) file(e api.Element, up *place) api.FileItem {
	f := api.FileItem{
		Name:  get(e, "name"),
		Multi: multi(get(e, "multiplicity")),
		Kind:  r.kind(get(e, "definitionRef")),
		Refs:  words(e, "targetRefs"),
	}
	here := &place{f.Name, up}
	id := get(e, "id")
	if _, is := r.places[id]; !is {
		r.places[id] = here
	}
	f.Kids = r.files(part(e, "children"), here)
	return f
}

func multi(name string) int {
	switch name {
	case "ExactlyOne":
		return api.MultiOne
	case "ZeroOrOne":
		return api.MultiMaybe
	case "ZeroOrMore", "Unspecified", "":
		return api.MultiAny
	case "OneOrMore":
		return api.MultiSome
	}
	panic(api.ErrModel)
}

// kind returns the kind of values that a definition of case file items has.
func (r *reader) kind(ref string) int {
	e, is := r.types[ref]
	need(is, api.ErrNone)
	switch get(e, "definitionType") {
	case "none", "":
		return api.KindNone
	case "int":
		return api.KindInt
	case "bool":
		return api.KindBool
	case "string":
		return api.KindText
	}
	panic(api.ErrModel)
}
