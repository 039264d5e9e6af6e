package audit

import (
	"slices"
	"strings"

	"dossier/api"
	"dossier/states"
	"dossier/tree"
)

const byParent = 10 // added to the state before a suspension that the parent caused

// A register has the items of a model and the instances of a case at hand, since each instance is held against others.
type register struct {
	plan   string              // the ID of the plan
	items  map[string]api.Item // by ID: of several items with one ID, the first
	places map[place]struct{}
	insts  map[string]api.Inst // by path: of several instances at one path, the first
}

// A place is that of an item directly below another one.
type place struct{ up, item string }

func registered(m api.Model, c api.Case) register {
	r := register{plan: m.Plan.ID, items: map[string]api.Item{}, places: map[place]struct{}{}, insts: map[string]api.Inst{}}
	r.addItem(m.Plan)
	for _, x := range c.Insts {
		if _, met := r.insts[x.Path]; !met {
			r.insts[x.Path] = x
		}
	}
	return r
}

// addItem adds an item and everything below it.
func (r register) addItem(i api.Item) {
	_, met := r.items[i.ID]
	if !met {
		r.items[i.ID] = i
	}
	for _, l := range [...][]api.Item{i.Kids, i.Table} {
		for _, below := range l {
			if !met {
				r.places[place{i.ID, below.ID}] = struct{}{}
			}
			r.addItem(below)
		}
	}
}

func (r register) consistent(x api.Inst) bool {
	item, _ := tree.Last(x.Path)
	i, known := r.items[item]
	plan := tree.Up(x.Path) == ""
	return known && x.Item == item && numbered(x.Path) && r.placed(x) &&
		states.States(i.Kind, plan, x.State) && paused(x) && observes(x, i) &&
		(x.Due == 0 || i.Kind == api.ItemTimer)
}

// placed reports whether an instance is where one of its item can be, in its state.
func (r register) placed(x api.Inst) bool {
	up := tree.Up(x.Path)
	if up == "" {
		return x.Path == tree.Path("", r.plan, 1)
	}
	above, is := r.insts[up]
	if !is {
		return false
	}
	_, fits := r.places[place{above.Item, x.Item}]
	ended := states.Final(above.State) && !states.Final(x.State)
	return fits && !ended && (above.State != api.Suspended || x.State != api.Active)
}

// numbered reports whether every part of a path has an item and a number.
func numbered(path string) bool {
	for part := range strings.SplitSeq(path, "/") {
		if item, _ := tree.Last(part); item == "" {
			return false
		}
	}
	return true
}

// paused reports whether an instance has a state before it was suspended if it is, and none otherwise.
func paused(x api.Inst) bool {
	if x.State != api.Suspended {
		return x.Before == 0
	}
	return before(x.Before) || before(x.Before-byParent)
}

func before(state int) bool { return api.Available <= state && state <= api.Terminated }

// observes reports whether an instance has a latch for each sentry of its item, with no bits but those of the on-parts.
func observes(x api.Inst, i api.Item) bool {
	return slices.EqualFunc(x.Latches, slices.Concat(i.Entry, i.Exit), func(latch int, s api.Sentry) bool {
		return latch >= 0 && latch>>len(s.On) == 0
	})
}
