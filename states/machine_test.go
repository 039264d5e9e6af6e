package states

import (
	"slices"
	"strconv"
	"strings"
	"testing"

	"dossier/api"
)

// A machine is read from lines of text, as those of the chapter.
type machine struct{ moves []move }

// A move leads from a state to another one; only with this before, if that is not 0.
type move struct{ state, event, before, to int }

var stateNames = [...]string{"", "Available", "Enabled", "Disabled", "Active", "Failed", "Suspended", "Completed", "Terminated", "Closed"}

var eventNames = [...]string{"", "create", "enable", "disable", "reenable", "start", "manual", "complete", "fault", "reactivate", "suspend", "resume", "terminate", "exit", "stop", "wait", "go", "occur", "close"}

func machineOf(lines string) machine {
	var m machine
	for line := range strings.Lines(strings.TrimSpace(lines)) {
		state, rest, _ := strings.Cut(strings.TrimSpace(line), ":")
		for s := range strings.SplitSeq(rest, ",") {
			event, to, is := strings.Cut(strings.TrimSpace(s), " ")
			if !is {
				continue
			}
			before := 0
			if digits, after, is := strings.Cut(to, "?"); is {
				before, _ = strconv.Atoi(digits)
				to = after
			}
			m.moves = append(m.moves, move{slices.Index(stateNames[:], state), slices.Index(eventNames[:], event), before, slices.Index(stateNames[:], to)})
		}
	}
	return m
}

func (m machine) next(state, before, event int) (int, bool) {
	for _, x := range m.moves {
		if x.state == state && x.event == event && (x.before == 0 || x.before == before) {
			return x.to, true
		}
	}
	return 0, false
}

// The tables are those that they seem to be.
func TestMachines(t *testing.T) {
	for lines, want := range map[string]int{workLines: 34, planLines: 14, occurLines: 9} {
		m := machineOf(lines)
		if len(m.moves) != want {
			t.Errorf("%d moves, want %d, of %s", len(m.moves), want, lines)
		}
		for _, x := range m.moves {
			if x.state < 1 || x.event < 1 || x.to < 1 {
				t.Errorf("%v of %s", x, lines)
			}
		}
	}
	if api.EvParentGo != slices.Index(eventNames[:], "go") || api.EvClose != slices.Index(eventNames[:], "close") || api.Closed != slices.Index(stateNames[:], "Closed") {
		t.Error("the names are not in their places")
	}
}

// possible calls visit for each event that is possible.
func possible(visit func(x lifecycle, state, before, event, to int)) {
	for _, x := range append(lifecycles(), nobody()...) {
		for state := -1; state <= 11; state++ {
			for before := -1; before <= 21; before++ {
				for event := -1; event <= 28; event++ {
					if to, is := Next(x.kind, x.root, state, before, event); is {
						visit(x, state, before, event, to)
					}
				}
			}
		}
	}
}

func TestP17_3Next(t *testing.T) {
	many := 0
	possible(func(x lifecycle, state, before, event, to int) {
		many++
		if !States(x.kind, x.root, to) {
			t.Errorf("event %d leads %v from %d to %d", event, x, state, to)
		}
		if !States(x.kind, x.root, state) || !slices.Contains(Events(x.kind, x.root, state), event) {
			t.Errorf("event %d leads %v from %d, where it cannot be, or which is not told", event, x, state)
		}
	})
	// Moves without a question are possible with each of 23 befores.
	if want := 23*(28*5+14+7*3) + 6*5 + 2*3; many != want {
		t.Errorf("%d, want %d", many, want)
	}
}

func TestP17_4Rank(t *testing.T) {
	rising := []int{api.EvEnable, api.EvStart, api.EvComplete, api.EvOccur, api.EvExit, api.EvParentStop}
	met := map[int]bool{}
	possible(func(x lifecycle, state, before, event, to int) {
		if !slices.Contains(rising, event) {
			return
		}
		met[event] = true
		if Rank(to) <= Rank(state) {
			t.Errorf("event %d leads %v from %d of rank %d to %d of rank %d", event, x, state, Rank(state), to, Rank(to))
		}
	})
	if len(met) != len(rising) {
		t.Error("met only", met)
	}
}

func TestP17_5WaitAndGo(t *testing.T) {
	many := 0
	for _, x := range lifecycles() {
		for state := range 10 {
			to, is := Next(x.kind, x.root, state, 0, api.EvParentWait)
			if !is {
				continue
			}
			many++
			if to != api.Suspended {
				t.Errorf("%v waits in %d, not suspended but in %d", x, state, to)
			}
			wantNext(t, x, to, state+10, api.EvParentGo, state, true)
		}
	}
	if many != 5*5+3 {
		t.Errorf("%d can wait", many)
	}
}
