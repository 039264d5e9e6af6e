package codec

import "dossier/api"

const (
	maxPath   = 4096    // bytes
	maxNumber = 1 << 31 // of most numbers
	maxTime   = 1 << 62
)

// A visitor is shown the fields of what is encoded, in the order of the encoding: a writer writes them, a reader fills them.
type visitor interface {
	number(n *int, most int)
	text(s *string, most int)
	flag(is *bool)
	value(v *api.Value)
}

// command shows the fields that a command has by its verb, and reports whether there is such a verb.
func command(v visitor, k *api.Command) bool {
	v.number(&k.Verb, maxNumber)
	switch k.Verb {
	case api.VerbDeploy:
		v.text(&k.Text, api.MaxText)
	case api.VerbCreate:
		v.text(&k.Role, api.MaxName)
		v.text(&k.Name, api.MaxName)
	case api.VerbDo:
		address(v, k)
		v.text(&k.Path, maxPath)
		v.number(&k.Event, maxNumber)
	case api.VerbPlan:
		address(v, k)
		v.text(&k.Path, maxPath)
		v.text(&k.Name, api.MaxName)
	case api.VerbFile:
		address(v, k)
		v.number(&k.Event, maxNumber)
		v.text(&k.Path, maxPath)
		v.text(&k.Name, maxPath)
		v.value(&k.Value)
	case api.VerbTick:
		address(v, k)
		v.number(&k.Int, maxTime)
	case api.VerbLook:
		v.number(&k.Case, maxNumber)
	case api.VerbList, api.VerbCompact:
	default:
		return false
	}
	return true
}

// address shows which case a command is for, and who gives it.
func address(v visitor, k *api.Command) {
	v.number(&k.Case, maxNumber)
	v.text(&k.Role, api.MaxName)
}

// answer shows the fields of an answer, and reports whether there is a state.
func answer(v visitor, a *api.Answer) bool {
	v.number((*int)(&a.Code), maxNumber)
	v.number(&a.Offset, maxNumber)
	v.number(&a.Case, maxNumber)
	list(v, &a.Names, api.MaxCases+api.MaxModels, func(name *string) { v.text(name, maxPath) })
	state := len(a.State.Insts) > 0
	v.flag(&state)
	if state {
		caseOf(v, &a.State)
	}
	return state
}

func caseOf(v visitor, c *api.Case) {
	v.number(&c.ID, maxNumber)
	v.text(&c.Model, api.MaxName)
	v.number(&c.Clock, maxTime)
	list(v, &c.Insts, 10*api.MaxItems, func(x *api.Inst) { inst(v, x) })
	list(v, &c.Docs, api.MaxFile, func(d *api.Doc) { doc(v, d) })
}

func inst(v visitor, x *api.Inst) {
	v.text(&x.Path, maxPath)
	v.text(&x.Item, api.MaxName)
	v.number(&x.State, maxNumber)
	v.number(&x.Before, maxNumber)
	list(v, &x.Latches, 2*api.MaxParts, func(latch *int) { v.number(latch, maxNumber) })
	v.number(&x.Due, maxTime)
}

func doc(v visitor, d *api.Doc) {
	v.text(&d.Path, maxPath)
	v.value(&d.Value)
	list(v, &d.Refs, api.MaxParts, func(ref *string) { v.text(ref, maxPath) })
}

// list shows how many elements there are, and then each of them.
func list[T any](v visitor, l *[]T, most int, show func(*T)) {
	n := len(*l)
	v.number(&n, most)
	if n != len(*l) {
		*l = make([]T, n) // a reader has found so many
	}
	for k := range *l {
		show(&(*l)[k])
	}
}
