package casefile

import (
	"slices"
	"strings"

	"dossier/api"
	"dossier/shape"
)

const maxNumber = 1 << 62 // of a new instance

// A change is made to valid instances of a case file, which are its own.
type change struct {
	files  []api.FileItem
	docs   []api.Doc
	events []api.Event
}

func (c *change) do(event int, path, name string, v api.Value) api.Errno {
	switch event {
	case api.EvCreate:
		if path != "" {
			return api.ErrArg
		}
		return c.create("", c.files, name, v)
	case api.EvAddChild:
		return c.addChild(path, name, v)
	case api.EvReplace, api.EvUpdate, api.EvDelete:
		if name != "" {
			return api.ErrArg
		}
		return c.alter(event, path, v)
	case api.EvCutChild:
		return c.cutChild(path, name)
	case api.EvAddRef:
		return c.addRef(path, name)
	case api.EvCutRef:
		return c.cutRef(path, name)
	}
	return api.ErrArg
}

// create creates an instance below another one, or at the top, of that one of the definitions there which has the name.
func (c *change) create(up string, below []api.FileItem, name string, v api.Value) api.Errno {
	k := slices.IndexFunc(below, func(f api.FileItem) bool { return f.Name == name })
	if k < 0 {
		return api.ErrNone
	}
	there := Kids(c.docs, up, name)
	last := 0
	for _, d := range there {
		_, last = shape.Last(d.Path)
	}
	switch {
	case !fits(v, below[k]):
		return api.ErrKind
	case len(there) > 0 && !several(below[k]):
		return api.ErrMulti
	case len(c.docs) >= api.MaxFile, last >= maxNumber:
		return api.ErrFull
	}
	d := api.Doc{Path: shape.Join(up, name, last+1), Value: v}
	at, _ := slices.BinarySearchFunc(c.docs, d, func(a, b api.Doc) int { return shape.Order(a.Path, b.Path) })
	c.docs = slices.Insert(c.docs, at, d)
	c.tell(d.Path, api.EvCreate)
	return api.OK
}

func (c *change) addChild(path, name string, v api.Value) api.Errno {
	f, is := c.find(path)
	if !is {
		return api.ErrNone
	}
	c.tell(path, api.EvAddChild)
	return c.create(path, f.Kids, name, v)
}

// alter does one of the events that concern an instance alone.
func (c *change) alter(event int, path string, v api.Value) api.Errno {
	f, is := c.find(path)
	switch {
	case !is:
		return api.ErrNone
	case event == api.EvDelete:
		return c.remove(path, f)
	case !fits(v, f):
		return api.ErrKind
	}
	c.docs[index(c.docs, path)].Value = v
	if event == api.EvReplace {
		c.cut(func(other string) bool { return under(other, path) })
	}
	c.tell(path, event)
	return api.OK
}

// remove deletes an instance with a definition, and all below it.
func (c *change) remove(path string, f api.FileItem) api.Errno {
	if needed(f) && len(Kids(c.docs, shape.Up(path), f.Name)) == 1 {
		return api.ErrMulti
	}
	c.cut(func(other string) bool { return other == path || under(other, path) })
	return api.OK
}

func (c *change) cutChild(path, name string) api.Errno {
	kid := path + "." + name
	f, is := c.find(kid)
	if !is || shape.Up(kid) != path {
		return api.ErrNone
	}
	if err := c.remove(kid, f); err != api.OK {
		return err
	}
	c.tell(path, api.EvCutChild)
	return api.OK
}

func (c *change) addRef(path, name string) api.Errno {
	f, is := c.find(path)
	if _, isName := c.find(name); !is || !isName {
		return api.ErrNone
	}
	refs := &c.docs[index(c.docs, path)].Refs
	switch {
	case !allows(f, name):
		return api.ErrKind
	case slices.Contains(*refs, name):
		return api.ErrTwice
	case len(*refs) >= api.MaxParts:
		return api.ErrFull
	}
	*refs = append(*refs, name)
	c.tell(path, api.EvAddRef)
	return api.OK
}

func (c *change) cutRef(path, name string) api.Errno {
	k := index(c.docs, path)
	if k < 0 || index(c.docs, name) < 0 {
		return api.ErrNone
	}
	if !slices.Contains(c.docs[k].Refs, name) {
		return api.ErrState
	}
	c.docs[k].Refs = kept(c.docs[k].Refs, func(ref string) bool { return ref == name })
	c.tell(path, api.EvCutRef)
	return api.OK
}

// find returns the definition of the instance at a path, and false if there is no instance.
func (c *change) find(path string) (api.FileItem, bool) {
	if index(c.docs, path) < 0 {
		return api.FileItem{}, false
	}
	return definition(c.files, path)
}

// cut deletes the instances that are gone, and all references to them.
func (c *change) cut(gone func(path string) bool) {
	c.docs = left(c.docs, gone, func(path string) { c.tell(path, api.EvDelete) })
}

func (c *change) tell(path string, event int) {
	c.events = append(c.events, api.Event{Path: path, File: true, Event: event})
}

// left returns the instances of l that are not gone, without references to those that are, and reports the path of each of these.
func left(l []api.Doc, gone func(path string) bool, report func(path string)) []api.Doc {
	var docs []api.Doc
	for _, d := range l {
		if gone(d.Path) {
			report(d.Path)
			continue
		}
		d.Refs = kept(d.Refs, gone)
		docs = append(docs, d)
	}
	return docs
}

// kept returns the references that are not gone.
func kept(refs []string, gone func(path string) bool) []string {
	var l []string
	for _, ref := range refs {
		if !gone(ref) {
			l = append(l, ref)
		}
	}
	return l
}

// under reports whether the instance at a path is below the one at another.
func under(path, up string) bool { return strings.HasPrefix(path, up+".") }
