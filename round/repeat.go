package round

import "dossier/api"

const movesEach = 8 // of an instance, at most: each of them increases its rank

// Repeat performs rounds, the first one for some events and each further one for those of the one before, until a round has none. It returns the case behind the last one.
func Repeat(c api.Case, l []api.Event, perform func(api.Case, []api.Event) (api.Case, []api.Event, api.Errno)) (api.Case, api.Gauge, api.Errno) {
	var g api.Gauge
	for {
		next, events, err := perform(c, l)
		if err != api.OK {
			return api.Case{}, api.Gauge{}, err
		}
		g.Rounds++
		g.Moves += moves(events)
		switch {
		case len(events) == 0:
			return next, g, api.OK
		case g.Moves > movesEach*len(next.Insts):
			// New instances have taken the places of others, as the paths of a case made by hand can have it: that may go on without end.
			return api.Case{}, api.Gauge{}, api.ErrBudget
		}
		c, l = next, events
	}
}

// moves returns how many of some events are of instances that were there before.
func moves(l []api.Event) int {
	n := 0
	for _, e := range l {
		if e.Event != api.EvCreate {
			n++
		}
	}
	return n
}
