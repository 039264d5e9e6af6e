package round

import (
	"dossier/api"
	"dossier/rules"
)

// A run is a round, in a case that is the run's own.
type run struct {
	m    api.Model
	c    api.Case
	most int
	tell func(l []api.Event) // is told what happens
}

// take goes on with the case that a call returned, unless that is an error.
func (r *run) take(c api.Case, l []api.Event, err api.Errno) api.Errno {
	if err == api.OK {
		r.c = c
		r.tell(l)
	}
	return err
}

// perform performs what becomes of some instances, one after the other.
func (r *run) perform(l []api.Firing) api.Errno {
	for _, f := range l {
		if err := r.take(Perform(r.m, r.c, f, r.most)); err != api.OK {
			return err
		}
	}
	return api.OK
}

// renew creates new instances for those that some events ended.
func (r *run) renew(l []api.Event) api.Errno {
	return r.take(rules.Renew(r.m, r.c, l, r.most))
}
