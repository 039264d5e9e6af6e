package bind

import (
	"dossier/api"
	"dossier/chars"
	"dossier/show"
)

// A stage is an element that contains items, with what they refer to.
type stage struct {
	api.Element
	definitions map[string]api.Element
	sentries    map[string]api.Element
	known       map[string]*stage // those of the definitions whose contents have been read
}

func stageOf(e api.Element) *stage {
	definitions := chosen(e, func(name string) bool {
		_, is := show.KindOf(name)
		return is
	})
	return &stage{e, byID(definitions), byID(parts(e, "sentry")), map[string]*stage{}}
}

func (r *reader) plan(e api.Element) api.Item {
	r.items++
	s := stageOf(e)
	i := api.Item{ID: get(e, "id"), Name: get(e, "name"), Auto: auto(e), Exit: r.sentries(s, e, "exitCriterion")}
	r.fill(&i, s, 1)
	return i
}

// fill reads the items in a stage, which is at a depth, into its item.
func (r *reader) fill(i *api.Item, s *stage, depth int) {
	i.Kids = r.uses(s, s.Element, "planItem", depth+1)
	i.Table = r.uses(s, part(s.Element, "planningTable"), "discretionaryItem", depth+1)
}

// uses returns the items of a stage that an element lists by parts of a name.
func (r *reader) uses(s *stage, list api.Element, name string, depth int) []api.Item {
	var l []api.Item
	for _, use := range parts(list, name) {
		l = append(l, r.item(s, use, depth))
	}
	return l
}

// item returns an item of a stage.
func (r *reader) item(s *stage, use api.Element, depth int) api.Item {
	definition, is := s.definitions[get(use, "definitionRef")]
	need(is, api.ErrNone)
	need(depth <= api.MaxDepth, api.ErrFull)
	r.items++
	i := api.Item{ID: get(use, "id"), Name: get(definition, "name"), Roles: words(definition, "roleRefs")}
	i.Kind, _ = show.KindOf(definition.Name)
	i.Free = flag(definition, "isBlocking") == "false"
	i.After = after(definition, i.Kind)
	control := part(use, "itemControl")
	i.Repeat = rule(control, "repetitionRule")
	i.Required = rule(control, "requiredRule")
	i.Manual = rule(control, "manualActivationRule")
	i.Entry = r.sentries(s, use, "entryCriterion")
	i.Exit = r.sentries(s, use, "exitCriterion")
	if i.Kind == api.ItemStage {
		i.Auto = auto(definition)
		r.nest(&i, s, definition, depth)
	}
	return i
}

// nest reads the items in a stage that is defined in another one. Several items can have one definition, and so can those in it, and so on, so that a short document has more items than can be listed. Once there are too many for model.Check, the contents of a definition that has been read before add no other error, and are left out.
func (r *reader) nest(i *api.Item, around *stage, definition api.Element, depth int) {
	id := get(definition, "id")
	s, again := around.known[id]
	if again && r.items > api.MaxItems {
		return
	}
	if !again {
		s = stageOf(definition)
		around.known[id] = s
	}
	r.fill(i, s, depth)
}

func auto(e api.Element) bool { return flag(e, "autoComplete") == "true" }

// after returns the time of a timer; other kinds have none.
func after(definition api.Element, kind int) int {
	if kind != api.ItemTimer {
		need(len(parts(definition, "timerExpression")) == 0, api.ErrModel)
		return 0
	}
	n, err := chars.Number(only(definition, "timerExpression").Text)
	need(err == api.OK, err)
	return n
}

// rule returns the rule with a name, "" if there is none.
func rule(control api.Element, name string) string {
	e, is := optional(control, name)
	if !is {
		return ""
	}
	if s, is := condition(e); is {
		return s
	}
	return "true"
}

// condition returns the condition of an element, and false if it has none.
func condition(e api.Element) (string, bool) {
	c, is := optional(e, "condition")
	if !is {
		return "", false
	}
	language := get(c, "language")
	need(language == "" || language == "http://dossier/expression", api.ErrTongue)
	return only(c, "body").Text, true
}
