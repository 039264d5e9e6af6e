package cascade

import (
	"dossier/api"
	"dossier/model"
	"dossier/states"
	"dossier/tree"
)

const (
	byParent = 10      // added to the state before a suspension that the parent caused
	latest   = 1 << 62 // when a timer is due, at most
)

// A run is a transition with what follows from it, in a case that is the run's own.
type run struct {
	m      api.Model
	c      api.Case
	most   int
	events []api.Event
}

// result returns what has become of the case, unless there are too many instances.
func (r *run) result() (api.Case, []api.Event, api.Errno) {
	if len(r.c.Insts) > r.most {
		return api.Case{}, nil, api.ErrBudget
	}
	return r.c, r.events, api.OK
}

// do performs a transition of the instance at an index, and what follows from it.
func (r *run) do(at, event int) api.Errno {
	i, err := r.step(at, event)
	if err != api.OK {
		return err
	}
	x := r.c.Insts[at]
	switch {
	case event == api.EvStart, event == api.EvManual:
		r.begin(at, i)
	case states.Final(x.State):
		r.spread(x.Path, api.EvParentStop)
	case x.State == api.Suspended:
		r.spread(x.Path, api.EvParentWait)
	case event == api.EvResume:
		r.resume(x.Path)
	}
	return api.OK
}

// step performs a transition of the instance at an index alone, and returns its item.
func (r *run) step(at, event int) (api.Item, api.Errno) {
	x := &r.c.Insts[at]
	i, is := model.Find(r.m, x.Item)
	if !is {
		return api.Item{}, api.ErrNone
	}
	to, is := states.Next(i.Kind, tree.Up(x.Path) == "", x.State, x.Before, event)
	if !is {
		return api.Item{}, api.ErrState
	}
	x.State, x.Before = to, before(x.State, to, event)
	r.tell(x.Path, event)
	return i, api.OK
}

// begin does what follows for a stage or a task that has become Active; no other kind can be.
func (r *run) begin(at int, i api.Item) {
	switch {
	case i.Kind == api.ItemStage:
		r.create(r.c.Insts[at].Path, i.Kids...)
	case i.Free:
		r.do(at, api.EvComplete)
	}
}

// spread performs an event of each instance below a path for which it is possible.
func (r *run) spread(path string, event int) {
	for at, x := range r.c.Insts {
		if tree.Under(x.Path, path) {
			r.step(at, event)
		}
	}
}

// resume performs EvParentGo below a path, as far as each parent has resumed: what is below an instance that was suspended by itself waits for that one.
func (r *run) resume(path string) {
	resumed := map[string]struct{}{path: {}}
	for at, x := range r.c.Insts {
		if _, is := resumed[tree.Up(x.Path)]; !is {
			continue
		}
		if _, err := r.step(at, api.EvParentGo); err == api.OK {
			resumed[x.Path] = struct{}{}
		}
	}
}

// create makes a new instance of each of some items below a path.
func (r *run) create(up string, items ...api.Item) {
	for _, i := range items {
		if len(r.c.Insts) > r.most {
			return // result says so, however many there would be
		}
		path := tree.Path(up, i.ID, tree.Next(r.c, up, i.ID))
		r.put(fresh(i, path, r.c.Clock), api.EvCreate)
	}
}

// put adds an instance, by an event.
func (r *run) put(x api.Inst, event int) {
	r.c = tree.Put(r.c, x)
	r.tell(x.Path, event)
}

func (r *run) tell(path string, event int) {
	r.events = append(r.events, api.Event{Path: path, Event: event})
}

// fresh returns a new instance of an item.
func fresh(i api.Item, path string, clock int) api.Inst {
	x := api.Inst{Path: path, Item: i.ID, State: api.Available, Latches: make([]int, len(i.Entry)+len(i.Exit))}
	if i.Kind == api.ItemTimer {
		x.Due = due(clock, i.After)
	}
	return x
}

// due returns when a timer that begins at a time is due.
func due(clock, after int) int {
	if after > 0 && clock > latest-after {
		return latest // ahead of the sum, which may be too large for an int
	}
	return min(clock+after, latest)
}

// before returns what an instance has as Before once an event has led from a state to another one.
func before(from, to, event int) int {
	switch {
	case to != api.Suspended:
		return 0
	case event == api.EvParentWait:
		return from + byParent
	}
	return from
}
