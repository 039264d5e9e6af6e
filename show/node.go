package show

import "dossier/api"

// Space is the namespace of all elements of a document.
const Space = "http://www.omg.org/spec/CMMN/20151109/MODEL"

// A node is an element that is being built.
type node struct{ api.Element }

// tag returns an element of the name with the given parts. Those that are nil are left out.
func tag(name string, parts ...*node) *node {
	n := &node{api.Element{Space: Space, Name: name}}
	return n.add(parts...)
}

// said returns an element of the name with a text.
func said(name, text string) *node {
	n := tag(name)
	n.Text = text
	return n
}

// group returns an element of the name with the given parts, nil if there are none.
func group(name string, parts ...*node) *node {
	n := tag(name, parts...)
	if len(n.Kids) == 0 {
		return nil
	}
	return n
}

// add adds parts behind those that are there, as they are at present.
func (n *node) add(parts ...*node) *node {
	for _, p := range parts {
		if p != nil {
			n.Kids = append(n.Kids, p.Element)
		}
	}
	return n
}

// id adds the attribute that may be empty.
func (n *node) id(value string) *node {
	n.Attrs = append(n.Attrs, api.Pair{Name: "id", Value: value})
	return n
}

// with adds an attribute unless its value is empty.
func (n *node) with(name, value string) *node {
	if value != "" {
		n.Attrs = append(n.Attrs, api.Pair{Name: name, Value: value})
	}
	return n
}

// each returns what build returns for the elements of a list.
func each[T any](l []T, build func(k int, x T) *node) []*node {
	var nodes []*node
	for k, x := range l {
		nodes = append(nodes, build(k, x))
	}
	return nodes
}
