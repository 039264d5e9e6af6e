package round

import (
	"slices"

	"dossier/api"
	"dossier/cascade"
	"dossier/finish"
	"dossier/latch"
	"dossier/rules"
	"dossier/tree"
)

// A run is a round, in a case that is the run's own.
type run struct {
	m    api.Model
	c    api.Case
	most int
	tell func(l []api.Event) // is told what happens
}

// take goes on with the case that a call of a lower layer returned, unless that is an error.
func (r *run) take(c api.Case, l []api.Event, err api.Errno) api.Errno {
	if err == api.OK {
		r.c = c
		r.tell(l)
	}
	return err
}

// fire performs the transitions that are determined by the case as it is before the first of them.
func (r *run) fire() api.Errno {
	l := Firings(r.m, r.c)
	slices.SortStableFunc(l, func(a, b api.Firing) int { return tree.Order(a.Path, b.Path) })
	for _, f := range l {
		if err := r.begin(f); err == api.ErrBudget {
			return err
		}
	}
	return api.OK
}

// begin performs one of the transitions. One that has become impossible since is an error without an effect.
func (r *run) begin(f api.Firing) api.Errno {
	err := r.take(cascade.Do(r.m, r.c, f.Path, f.Event, r.most))
	if err != api.OK || f.Event == api.EvExit {
		return err
	}
	r.c = latch.Clear(r.m, r.c, f.Path)
	if !f.Again {
		return api.OK
	}
	x, _ := tree.Find(r.c, f.Path)
	return r.take(cascade.Create(r.m, r.c, tree.Up(f.Path), x.Item, r.most))
}

// renew creates new instances for those that some events ended.
func (r *run) renew(l []api.Event) api.Errno {
	return r.take(rules.Renew(r.m, r.c, l, r.most))
}

// complete completes the stages that are done, but for those that began by some events. One may have ended with another one, if a stage between them has failed.
func (r *run) complete(l []api.Event) api.Errno {
	for _, path := range finish.All(r.m, r.c) {
		if slices.Contains(l, api.Event{Path: path, Event: api.EvStart}) {
			continue
		}
		if err := r.take(cascade.Do(r.m, r.c, path, api.EvComplete, r.most)); err == api.ErrBudget {
			return err
		}
	}
	return api.OK
}
