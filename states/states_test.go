package states

import (
	"math"
	"slices"
	"testing"

	"dossier/api"
)

// The machines as the chapter has them: for each state the events, and where they lead. A number ahead of a "?" is what before must be.
const (
	workLines = `
Available: enable Enabled, start Active, exit Terminated, stop Terminated, wait Suspended
Enabled: disable Disabled, manual Active, exit Terminated, stop Terminated, wait Suspended
Disabled: reenable Enabled, exit Terminated, stop Terminated, wait Suspended
Active: complete Completed, fault Failed, suspend Suspended, terminate Terminated, exit Terminated, stop Terminated, wait Suspended
Failed: reactivate Active, terminate Terminated, exit Terminated, stop Terminated, wait Suspended
Suspended: resume 4?Active, terminate Terminated, stop Terminated, go 11?Available, go 12?Enabled, go 13?Disabled, go 14?Active, go 15?Failed
Completed:
Terminated:`

	planLines = `
Active: complete Completed, suspend Suspended, terminate Terminated, fault Failed, exit Terminated
Failed: reactivate Active, terminate Terminated, exit Terminated, close Closed
Suspended: resume Active, terminate Terminated, close Closed
Completed: close Closed
Terminated: close Closed
Closed:`

	occurLines = `
Available: occur Completed, suspend Suspended, terminate Terminated, stop Terminated, wait Suspended
Suspended: resume 1?Available, terminate Terminated, stop Terminated, go 11?Available
Completed:
Terminated:`
)

// A lifecycle is a kind of items, or the plan of a case.
type lifecycle struct {
	kind  int
	root  bool
	lines string
}

func lifecycles() []lifecycle {
	return []lifecycle{
		{api.ItemStage, true, planLines},
		{api.ItemStage, false, workLines},
		{api.ItemHuman, false, workLines},
		{api.ItemProcess, false, workLines},
		{api.ItemCase, false, workLines},
		{api.ItemDecision, false, workLines},
		{api.ItemMilestone, false, occurLines},
		{api.ItemListener, false, occurLines},
		{api.ItemTimer, false, occurLines},
	}
}

// nobody are kinds that are none, and plans that are no stages.
func nobody() []lifecycle {
	l := []lifecycle{{-1, true, ""}, {8, true, ""}}
	for kind := api.ItemHuman; kind <= api.ItemTimer; kind++ {
		l = append(l, lifecycle{kind, true, ""})
	}
	for _, kind := range []int{-1, 8, 9, 64, 256, 1 << 32, math.MaxInt, math.MinInt} {
		l = append(l, lifecycle{kind, false, ""}, lifecycle{kind, true, ""})
	}
	return l
}

// odd are numbers of no state and of no event.
func odd() []int {
	return []int{math.MinInt, math.MinInt + 1, math.MinInt + 9, math.MinInt + 10, math.MinInt + 11, math.MinInt + 14, -1 << 32, -256, -64, -63, -60, -10, -6, -1,
		0, 28, 30, 32, 63, 64, 65, 68, 128, 256, 1<<32 + 1, 1<<32 + 4, 1<<62 + 4, math.MaxInt - 10, math.MaxInt - 5, math.MaxInt}
}

func between(low, high int) []int {
	var l []int
	for n := low; n <= high; n++ {
		l = append(l, n)
	}
	return l
}

func wantNext(t *testing.T, x lifecycle, state, before, event, want int, wantIs bool) {
	t.Helper()
	if to, is := Next(x.kind, x.root, state, before, event); to != want || is != wantIs {
		t.Errorf("Next(kind %d, %t, state %d, before %d, event %d) = %d, %t, want %d, %t", x.kind, x.root, state, before, event, to, is, want, wantIs)
	}
}

// Every kind in every state, with every before and every event.
func TestP17_1Next(t *testing.T) {
	for _, x := range lifecycles() {
		m := machineOf(x.lines)
		for _, state := range append(between(-2, 12), odd()...) {
			for _, before := range append(between(-12, 32), odd()...) {
				for _, event := range append(between(-2, 29), odd()...) {
					to, is := m.next(state, before, event)
					wantNext(t, x, state, before, event, to, is)
				}
			}
		}
	}
}

func TestP17_1Nobody(t *testing.T) {
	for _, x := range nobody() {
		for _, state := range append(between(-2, 12), odd()...) {
			for _, before := range append(between(-1, 20), odd()...) {
				for _, event := range between(-1, 28) {
					wantNext(t, x, state, before, event, 0, false)
				}
			}
		}
	}
}

func TestP17_1Before(t *testing.T) {
	stage, task := lifecycle{kind: api.ItemStage}, lifecycle{kind: api.ItemHuman}
	timer, plan := lifecycle{kind: api.ItemTimer}, lifecycle{kind: api.ItemStage, root: true}
	s := api.Suspended
	for _, x := range []lifecycle{stage, task} {
		wantNext(t, x, s, 4, api.EvResume, api.Active, true)
		wantNext(t, x, s, 14, api.EvResume, 0, false)
		wantNext(t, x, s, 5, api.EvResume, 0, false)
		wantNext(t, x, s, 0, api.EvResume, 0, false)
		wantNext(t, x, s, 4, api.EvParentGo, 0, false)
		wantNext(t, x, s, 12, api.EvParentGo, api.Enabled, true)
		wantNext(t, x, s, 15, api.EvParentGo, api.Failed, true)
		// It cannot have been suspended in these.
		for _, before := range []int{10, 16, 17, 18, 19} {
			wantNext(t, x, s, before, api.EvParentGo, 0, false)
		}
		// In other states before means nothing.
		wantNext(t, x, api.Active, 14, api.EvParentGo, 0, false)
		wantNext(t, x, api.Active, 4, api.EvResume, 0, false)
		wantNext(t, x, api.Enabled, 99, api.EvManual, api.Active, true)
		wantNext(t, x, s, 99, api.EvTerminate, api.Terminated, true)
	}
	wantNext(t, timer, s, 1, api.EvResume, api.Available, true)
	wantNext(t, timer, s, 4, api.EvResume, 0, false)
	wantNext(t, timer, s, 11, api.EvResume, 0, false)
	wantNext(t, timer, s, 11, api.EvParentGo, api.Available, true)
	wantNext(t, timer, s, 14, api.EvParentGo, 0, false)
	// The plan is suspended by itself only, and resumes whatever was before.
	for before := -1; before < 21; before++ {
		wantNext(t, plan, s, before, api.EvResume, api.Active, true)
		wantNext(t, plan, s, before, api.EvParentGo, 0, false)
	}
}

func TestP17_1ByParent(t *testing.T) {
	for _, x := range lifecycles() {
		for state := 0; state <= 10; state++ {
			ends := state == api.Completed || state == api.Terminated
			want := 0
			if !x.root && States(x.kind, false, state) && !ends {
				want = api.Terminated
			}
			wantNext(t, x, state, 0, api.EvParentStop, want, want > 0)
			want = 0
			if !x.root && States(x.kind, false, state) && !ends && state != api.Suspended {
				want = api.Suspended
			}
			wantNext(t, x, state, 0, api.EvParentWait, want, want > 0)
		}
	}
}

func TestP17_1Example(t *testing.T) {
	for kind := api.ItemStage; kind <= api.ItemDecision; kind++ {
		wantNext(t, lifecycle{kind: kind}, api.Enabled, 0, api.EvManual, api.Active, true)
	}
}

func TestP17_2Final(t *testing.T) {
	final := []int{api.Completed, api.Terminated, api.Closed}
	for _, state := range append(between(-70, 70), odd()...) {
		if is := Final(state); is != slices.Contains(final, state) {
			t.Errorf("Final(%d) = %t", state, is)
		}
	}
}

func TestP17_2Rank(t *testing.T) {
	for k, state := range []int{api.Available, api.Enabled, api.Disabled, api.Suspended, api.Active, api.Failed, api.Completed, api.Terminated, api.Closed} {
		if rank := Rank(state); rank != k+1 {
			t.Errorf("Rank(%d) = %d, want %d", state, rank, k+1)
		}
	}
	for _, state := range slices.Concat(between(-70, 0), between(10, 70), odd()) {
		if rank := Rank(state); rank != 0 {
			t.Errorf("Rank(%d) = %d, want 0", state, rank)
		}
	}
}

func TestP17_2States(t *testing.T) {
	for _, x := range lifecycles() {
		want := []int{1, 6, 7, 8}
		switch {
		case x.root:
			want = []int{4, 5, 6, 7, 8, 9}
		case x.kind < api.ItemMilestone:
			want = []int{1, 2, 3, 4, 5, 6, 7, 8}
		}
		for _, state := range append(between(-70, 70), odd()...) {
			if is := States(x.kind, x.root, state); is != slices.Contains(want, state) {
				t.Errorf("States(%d, %t, %d) = %t", x.kind, x.root, state, is)
			}
		}
	}
	for _, x := range nobody() {
		for _, state := range append(between(-1, 11), odd()...) {
			if States(x.kind, x.root, state) {
				t.Errorf("States(%d, %t, %d)", x.kind, x.root, state)
			}
		}
	}
}

func wantEvents(t *testing.T, kind int, root bool, state int, want ...int) {
	t.Helper()
	l := Events(kind, root, state)
	if !slices.Equal(l, want) {
		t.Errorf("Events(%d, %t, %d) = %v, want %v", kind, root, state, l, want)
	}
	// What is done to a result concerns nobody else.
	for k := range l[:cap(l)] {
		l[:cap(l)][k] = -1
	}
	if again := Events(kind, root, state); !slices.Equal(again, want) {
		t.Errorf("Events(%d, %t, %d) = %v the second time", kind, root, state, again)
	}
}

func TestP17_2Events(t *testing.T) {
	for kind := api.ItemStage; kind <= api.ItemDecision; kind++ {
		wantEvents(t, kind, false, api.Available, api.EvEnable, api.EvStart, api.EvExit, api.EvParentStop, api.EvParentWait)
		wantEvents(t, kind, false, api.Enabled, api.EvDisable, api.EvManual, api.EvExit, api.EvParentStop, api.EvParentWait)
		wantEvents(t, kind, false, api.Disabled, api.EvReenable, api.EvExit, api.EvParentStop, api.EvParentWait)
		wantEvents(t, kind, false, api.Active, api.EvComplete, api.EvFault, api.EvSuspend, api.EvTerminate, api.EvExit, api.EvParentStop, api.EvParentWait)
		wantEvents(t, kind, false, api.Failed, api.EvReactivate, api.EvTerminate, api.EvExit, api.EvParentStop, api.EvParentWait)
		wantEvents(t, kind, false, api.Suspended, api.EvResume, api.EvTerminate, api.EvParentStop, api.EvParentGo)
		wantEvents(t, kind, false, api.Completed)
		wantEvents(t, kind, false, api.Terminated)
		wantEvents(t, kind, false, api.Closed)
	}
	wantEvents(t, api.ItemStage, true, api.Active, api.EvComplete, api.EvFault, api.EvSuspend, api.EvTerminate, api.EvExit)
	wantEvents(t, api.ItemStage, true, api.Failed, api.EvReactivate, api.EvTerminate, api.EvExit, api.EvClose)
	wantEvents(t, api.ItemStage, true, api.Suspended, api.EvResume, api.EvTerminate, api.EvClose)
	wantEvents(t, api.ItemStage, true, api.Completed, api.EvClose)
	wantEvents(t, api.ItemStage, true, api.Terminated, api.EvClose)
	for _, state := range []int{api.Available, api.Enabled, api.Disabled, api.Closed} {
		wantEvents(t, api.ItemStage, true, state)
	}
	for kind := api.ItemMilestone; kind <= api.ItemTimer; kind++ {
		wantEvents(t, kind, false, api.Available, api.EvSuspend, api.EvTerminate, api.EvParentStop, api.EvParentWait, api.EvOccur)
		wantEvents(t, kind, false, api.Suspended, api.EvResume, api.EvTerminate, api.EvParentStop, api.EvParentGo)
		for _, state := range []int{api.Enabled, api.Disabled, api.Active, api.Failed, api.Completed, api.Terminated, api.Closed} {
			wantEvents(t, kind, false, state)
		}
	}
}

func TestP17_2EventsOfNone(t *testing.T) {
	for _, x := range lifecycles() {
		for _, state := range odd() {
			wantEvents(t, x.kind, x.root, state)
		}
	}
	for _, x := range nobody() {
		for _, state := range append(between(0, 10), odd()...) {
			wantEvents(t, x.kind, x.root, state)
		}
	}
}
