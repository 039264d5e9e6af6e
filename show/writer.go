package show

import (
	"slices"
	"strings"

	"dossier/api"
	"dossier/chars"
	"dossier/model"
	"dossier/shape"
)

// A writer builds the elements of a valid model.
type writer struct {
	paths []string // of the case file; documents number its definitions in this order
}

func (w writer) definitions(m api.Model) *node {
	n := tag("definitions").with("targetNamespace", "http://dossier")
	n.add(each(w.paths, func(k int, path string) *node {
		f, _ := shape.Find(m.Files, path)
		return tag("caseFileItemDefinition").id(fileDefinition(k)).with("definitionType", typeName(f.Kind))
	})...)
	return n.add(w.model(m))
}

func (w writer) model(m api.Model) *node {
	roles := each(m.Roles, func(_ int, role string) *node { return tag("role").id(role) })
	return tag("case",
		group("caseFileModel", w.files("", m.Files)...),
		w.plan(m.Plan),
		group("caseRoles", roles...),
	).id(m.ID).with("name", m.Name)
}

// files returns the elements of the definitions in a list, whose paths begin with up.
func (w writer) files(up string, l []api.FileItem) []*node {
	return each(l, func(_ int, f api.FileItem) *node {
		path := up + f.Name
		k := w.number(path)
		return tag("caseFileItem", group("children", w.files(path+".", f.Kids)...)).
			id(fileItem(k)).
			with("name", f.Name).
			with("multiplicity", multiplicity(f.Multi)).
			with("definitionRef", fileDefinition(k)).
			with("targetRefs", strings.Join(f.Refs, " "))
	})
}

// number returns the number of the definition at a path.
func (w writer) number(path string) int { return slices.Index(w.paths, path) }

func (w writer) plan(i api.Item) *node {
	n := tag("casePlanModel").id(i.ID).with("name", i.Name).with("autoComplete", truth(i.Auto))
	return n.add(exits(i)...).add(w.contents(i, w.sentries(i))...)
}

// contents returns the parts of a stage; first are sentries that come ahead of those of its items.
func (w writer) contents(i api.Item, first []*node) []*node {
	parts := each(i.Kids, func(_ int, kid api.Item) *node { return use("planItem", kid) })
	parts = append(parts, first...)
	for _, x := range slices.Concat(i.Kids, i.Table) {
		parts = append(parts, w.sentries(x)...)
	}
	for _, x := range slices.Concat(i.Kids, i.Table) {
		parts = append(parts, w.definition(x))
	}
	table := each(i.Table, func(_ int, x api.Item) *node { return use("discretionaryItem", x) })
	return append(parts, group("planningTable", table...))
}

// use returns the element by which a stage has an item.
func use(name string, i api.Item) *node {
	control := group("itemControl",
		rule("repetitionRule", i.Repeat),
		rule("requiredRule", i.Required),
		rule("manualActivationRule", i.Manual))
	n := tag(name, control).id(i.ID).with("definitionRef", definitionOf(i))
	return n.add(entries(i)...).add(exits(i)...)
}

// rule returns the element of a name that holds a condition, nil if there is none.
func rule(name, condition string) *node {
	if condition == "" {
		return nil
	}
	return tag(name, tag("condition", said("body", condition)))
}

func entries(i api.Item) []*node { return criteria("entryCriterion", "e"+i.ID, i.Entry) }

func exits(i api.Item) []*node { return criteria("exitCriterion", "x"+i.ID, i.Exit) }

func criteria(name, owner string, l []api.Sentry) []*node {
	return each(l, func(k int, _ api.Sentry) *node {
		return tag(name).id("_"+numbered(owner, k)).with("sentryRef", sentryID(owner, k))
	})
}

// sentries returns the elements of the sentries of an item.
func (w writer) sentries(i api.Item) []*node {
	return append(w.side("e"+i.ID, i.Entry), w.side("x"+i.ID, i.Exit)...)
}

// side returns the elements of the sentries that an item has on one side; owner is that side and item.
func (w writer) side(owner string, l []api.Sentry) []*node {
	return each(l, func(k int, s api.Sentry) *node {
		return tag("sentry", each(s.On, w.on)...).add(rule("ifPart", s.If)).id(sentryID(owner, k))
	})
}

func sentryID(owner string, k int) string { return "_s" + numbered(owner, k) }

func numbered(owner string, k int) string { return owner + "_" + chars.Text(k) }

func (w writer) on(_ int, on api.OnPart) *node {
	event := said("standardEvent", model.EventName(on.Event))
	if on.Item != "" {
		return tag("planItemOnPart", event).with("sourceRef", on.Item)
	}
	return tag("caseFileItemOnPart", event).with("sourceRef", fileItem(w.number(on.File)))
}

// definition returns the element that says what an item is.
func (w writer) definition(i api.Item) *node {
	n := tag(KindName(i.Kind)).id(definitionOf(i)).with("name", i.Name)
	if i.Free {
		n.with("isBlocking", truth(false))
	}
	if i.Kind == api.ItemStage {
		n.with("autoComplete", truth(i.Auto)).add(w.contents(i, nil)...)
	}
	if i.Kind == api.ItemTimer {
		n.add(said("timerExpression", chars.Text(i.After)))
	}
	return n.with("roleRefs", strings.Join(i.Roles, " "))
}

func definitionOf(i api.Item) string { return "_d" + i.ID }

func fileItem(k int) string { return "_i" + chars.Text(k) }

func fileDefinition(k int) string { return "_f" + chars.Text(k) }

func truth(is bool) string {
	if is {
		return "true"
	}
	return "false"
}

func typeName(kind int) string {
	return [...]string{api.KindNone: "none", api.KindInt: "int", api.KindBool: "bool", api.KindText: "string"}[kind]
}

func multiplicity(multi int) string {
	return [...]string{
		api.MultiOne:   "ExactlyOne",
		api.MultiMaybe: "ZeroOrOne",
		api.MultiAny:   "ZeroOrMore",
		api.MultiSome:  "OneOrMore",
	}[multi]
}
