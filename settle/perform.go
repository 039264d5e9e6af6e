package settle

import (
	"slices"

	"dossier/api"
	"dossier/round"
	"dossier/tree"
)

// perform performs what becomes of some instances. It returns what happened in the order of the list, whatever the sequence was.
func (p *propagation) perform(l []api.Firing) ([]api.Event, api.Errno) {
	told := make([][]api.Event, len(l))
	for _, turn := range turns(l) {
		if err := p.take(l, turn, told); err != api.OK {
			return nil, err
		}
	}
	return slices.Concat(told...), api.OK
}

// take performs the elements of a turn, and tells what happened at the index of each.
func (p *propagation) take(l []api.Firing, turn []int, told [][]api.Event) api.Errno {
	w := pend(p.pick, turn)
	for {
		select {
		case k := <-w.next():
			c, events, err := round.Perform(p.m, p.c, l[k], p.most)
			if err != api.OK {
				return err
			}
			p.c, told[k] = c, events
		default:
			return api.OK
		}
	}
}

// turns splits the indices of a list into turns, one behind the other: those of one turn can be taken in any sequence, with the same result as in that of the list.
func turns(l []api.Firing) [][]int {
	var all [][]int
	turn := make([]int, len(l))
	for k, f := range l {
		for j, ahead := range l[:k] {
			if !apart(reach(f), reach(ahead)) {
				turn[k] = max(turn[k], turn[j]+1)
			}
		}
		if turn[k] == len(all) {
			all = append(all, nil)
		}
		all[turn[k]] = append(all[turn[k]], k)
	}
	return all
}

// reach returns the path at or below which everything is that a firing reads or changes. Where a further instance comes, that is the path around it: the number of the new one depends on those beside it, and in a case made by hand it can take the place of one of them.
func reach(f api.Firing) string {
	if f.Again {
		return tree.Up(f.Path)
	}
	return f.Path
}

// apart reports whether nothing is at or below both of two paths.
func apart(a, b string) bool {
	return a != b && !tree.Under(a, b) && !tree.Under(b, a)
}
