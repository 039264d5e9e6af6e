package engine

import (
	"dossier/api"
	"dossier/cascade"
	"dossier/casefile"
	"dossier/finish"
	"dossier/model"
	"dossier/planning"
	"dossier/roles"
	"dossier/rules"
	"dossier/states"
	"dossier/tree"
)

const latest = 1 << 61 // what the clock of a case can show

// An execution is a command on a case of a valid model, up to where the case is to be settled.
type execution struct {
	m      api.Model
	c      api.Case // as it is by now
	most   int
	events []api.Event
}

// take goes on with the case that a call returned, unless that is an error.
func (x *execution) take(c api.Case, l []api.Event, err api.Errno) api.Errno {
	if err == api.OK {
		x.c = c
		x.events = append(x.events, l...)
	}
	return err
}

func (x *execution) execute(k api.Command) api.Errno {
	switch k.Verb {
	case api.VerbDo:
		return x.do(k)
	case api.VerbPlan:
		return x.plan(k)
	case api.VerbFile:
		return x.file(k)
	case api.VerbTick:
		return x.tick(k)
	}
	return api.ErrVerb
}

func (x *execution) do(k api.Command) api.Errno {
	err := fault(x.m, x.c, k)
	if err == api.OK {
		err = x.take(cascade.Do(x.m, x.c, k.Path, k.Event, x.most))
	}
	if err == api.OK {
		err = x.take(rules.Renew(x.m, x.c, x.events, x.most))
	}
	return err
}

// fault returns what keeps a command from doing its event to the instance at its path.
func fault(m api.Model, c api.Case, k api.Command) api.Errno {
	x, i, err := open(m, c, k.Path, k.Role)
	if err == api.OK {
		err = refusal(m, c, x, i, k.Event)
	}
	return err
}

// open returns the instance at a path and its item, if a role may work on it.
func open(m api.Model, c api.Case, path, role string) (api.Inst, api.Item, api.Errno) {
	x, is := tree.Find(c, path)
	i, known := model.Find(m, x.Item)
	if !is || !known {
		return api.Inst{}, api.Item{}, api.ErrNone
	}
	return x, i, roles.Check(m, i.ID, role)
}

// refusal returns what keeps an instance of an item from an event that a command requests.
func refusal(m api.Model, c api.Case, x api.Inst, i api.Item, event int) api.Errno {
	up := tree.Up(x.Path)
	plan := up == ""
	_, can := states.Next(i.Kind, plan, x.State, x.Before, event)
	switch {
	case !can, !Asked(i.Kind, plan, event), !plan && !active(c, up):
		return api.ErrState
	case event == api.EvComplete && i.Kind == api.ItemStage && !finish.May(m, c, x.Path):
		return api.ErrNeeded
	}
	return api.OK
}

func (x *execution) plan(k api.Command) api.Errno {
	c, l, err := planning.Plan(x.m, x.c, k.Path, k.Name, x.most)
	if err == api.OK || err == api.ErrBudget { // the role counts ahead of the budget
		if refused := roles.Check(x.m, k.Name, k.Role); refused != api.OK {
			return refused
		}
	}
	return x.take(c, l, err)
}

func (x *execution) file(k api.Command) api.Errno {
	top := tree.Kids(x.c, "")
	switch {
	case !stands(x.m, k.Role):
		return api.ErrRole
	case len(top) == 0 || top[0].State != api.Active:
		return api.ErrState
	}
	docs, l, err := casefile.Do(x.m.Files, x.c.Docs, k.Event, k.Path, k.Name, k.Value)
	next := x.c
	next.Docs = docs
	return x.take(next, l, err)
}

func (x *execution) tick(k api.Command) api.Errno {
	switch {
	case !stands(x.m, k.Role):
		return api.ErrRole
	case k.Int < 0 || k.Int > api.MaxTick:
		return api.ErrArg
	case x.c.Clock > latest-k.Int: // ahead of the sum, which may be too large for an int
		return api.ErrFull
	}
	x.c.Clock += k.Int
	for _, at := range x.c.Insts {
		if !x.due(at.Path) {
			continue
		}
		if err := x.take(cascade.Do(x.m, x.c, at.Path, api.EvOccur, x.most)); err != api.OK {
			return err
		}
	}
	return api.OK
}

// due reports whether the instance at a path is one of a timer that occurs by now.
func (x *execution) due(path string) bool {
	timer, _ := tree.Find(x.c, path)
	i, is := model.Find(x.m, timer.Item)
	up := tree.Up(path)
	return is && i.Kind == api.ItemTimer && timer.State == api.Available && timer.Due <= x.c.Clock && up != "" && active(x.c, up)
}

// active reports whether there is an Active instance at a path.
func active(c api.Case, path string) bool {
	x, is := tree.Find(c, path)
	return is && x.State == api.Active
}

// stands reports whether a command on a case of a model can be given by a role.
func stands(m api.Model, role string) bool { return role == "" || roles.Known(m, role) }
