package whole

import (
	"math/rand"
	"strconv"

	"dossier/api"
	"dossier/model"
	"dossier/report"
)

func pick[T any](r *rand.Rand, l ...T) T { return l[r.Intn(len(l))] }

// made is a random model. Each item is below one of the stages with a smaller number.
func made(r *rand.Rand) api.Model {
	items := make([]api.Item, 5+r.Intn(12))
	for k := range items {
		items[k] = api.Item{ID: "i" + strconv.Itoa(k), Name: pick(r, "", "<"+strconv.Itoa(k)+">"), Kind: pick(r, 0, 0, 0, 1, 1, 2, 3, 4, 5, 5, 6, 7)}
	}
	items[0].Kind = api.ItemStage
	for k := range items {
		furnish(r, items, k)
	}
	for k := len(items) - 1; k > 0; k-- {
		up := &items[0]
		for s := range items[:k] {
			if items[s].Kind == api.ItemStage && r.Intn(3) == 0 {
				up = &items[s]
			}
		}
		list := pick(r, &up.Kids, &up.Kids, &up.Kids, &up.Table)
		*list = append(*list, items[k])
	}
	return api.Model{ID: "m", Roles: []string{"r1", "r2"}, Files: []api.FileItem{
		{Name: "f", Kind: api.KindInt, Multi: api.MultiAny, Refs: []string{"f.g"}, Kids: []api.FileItem{{Name: "g", Multi: api.MultiMaybe}}},
	}, Plan: items[0]}
}

// furnish gives the item of a number what its kind may have.
func furnish(r *rand.Rand, items []api.Item, number int) {
	i := &items[number]
	work := i.Kind == api.ItemStage || model.Task(i.Kind)
	if work {
		i.Exit = side(r, items, number, 5)
		i.Free, i.Auto = i.Kind != api.ItemStage && r.Intn(4) == 0, i.Kind == api.ItemStage && r.Intn(6) == 0
	}
	if i.Kind == api.ItemTimer {
		i.After = 1 + r.Intn(9)
	}
	if number == 0 {
		return
	}
	if work || i.Kind == api.ItemMilestone {
		i.Entry, i.Required, i.Repeat = side(r, items, number, 3), rule(r), rule(r)
	}
	if work {
		i.Manual = pick(r, "", "true", rule(r))
	}
	if work || i.Kind == api.ItemListener {
		i.Roles = pick(r, nil, nil, nil, []string{"r1"}, []string{"r2", "r1"})
	}
}

func rule(r *rand.Rand) string {
	return pick(r, "", "", "true", "1 / 0 = 1", "f > 5", "count(f) > 1", "number(i1, completed) < 2", "number(i2, active) < 1", "number(i3, terminated) > 0")
}

// side makes sentries of the item of a number, often none.
func side(r *rand.Rand, items []api.Item, number, rare int) []api.Sentry {
	var l []api.Sentry
	for range r.Intn(3) * min(1, r.Intn(rare)) {
		s := api.Sentry{If: pick(r, "", "", rule(r))}
		for range 1 + r.Intn(2)*r.Intn(2) {
			of := pick(r, items...)
			event := pick(r, api.EvComplete, api.EvStart, api.EvComplete, api.EvCreate, api.EvTerminate, api.EvSuspend, api.EvExit)
			if of.Kind >= api.ItemMilestone {
				event = api.EvOccur
			}
			if r.Intn(4) > 0 && of.ID != items[number].ID {
				s.On = append(s.On, api.OnPart{Item: of.ID, Event: event})
			}
		}
		if s.On == nil {
			s.On = []api.OnPart{{File: pick(r, "f", "f.g"), Event: pick(r, api.EvCreate, api.EvUpdate, api.EvDelete, api.EvAddChild)}}
		}
		l = append(l, s)
	}
	return l
}

// someCommand is one that mostly can be done: work of some role, a change of the case file, or time.
func someCommand(r *rand.Rand, m api.Model, c api.Case) api.Command {
	role := pick(r, "", "r1", "r1", "r2", "none")
	k := api.Command{Verb: api.VerbTick, Case: c.ID, Role: role, Int: r.Intn(6)}
	if work := report.Work(m, c, role); len(work) > 0 && r.Intn(4) > 0 {
		k = pick(r, work...)
		if k.Path == c.Insts[0].Path && r.Intn(4) > 0 {
			k = pick(r, work...) // what ends the case is rare enough by itself
		}
		return k
	}
	if r.Intn(3) == 0 {
		return k
	}
	k = api.Command{Verb: api.VerbFile, Case: c.ID, Role: role, Event: api.EvCreate, Name: "f", Value: api.Value{Kind: api.KindInt, Int: r.Intn(9)}}
	if len(c.Docs) > 0 && r.Intn(2) == 0 {
		k.Event, k.Path, k.Name = pick(r, api.EvUpdate, api.EvReplace, api.EvDelete, api.EvAddChild), pick(r, c.Docs...).Path, ""
	}
	if k.Event == api.EvAddChild {
		k.Name, k.Value = "g", api.Value{}
	}
	return k
}
