package cascade

import (
	"math"
	"reflect"
	"slices"
	"strconv"
	"strings"
	"testing"

	"dossier/api"
	"dossier/model"
	"dossier/states"
	"dossier/tree"
)

const clock = 7 // of the cases of these tests

// office is a model with all kinds of items.
func office() api.Model {
	holds := api.Sentry{If: "true"}
	return api.Model{ID: "office", Roles: []string{"clerk"}, Plan: api.Item{ID: "p", Exit: []api.Sentry{holds}, Kids: []api.Item{
		{ID: "z", Kind: api.ItemProcess, Free: true, Manual: "true", Entry: []api.Sentry{holds}},
		{ID: "s", Kind: api.ItemStage, Entry: []api.Sentry{holds, {On: []api.OnPart{{Item: "a", Event: api.EvComplete}}}}, Exit: []api.Sentry{holds}, Kids: []api.Item{
			{ID: "w", Kind: api.ItemTimer, After: 5},
			{ID: "t", Kind: api.ItemHuman, Entry: []api.Sentry{holds}, Repeat: "true", Roles: []string{"clerk"}},
			{ID: "u", Kind: api.ItemStage, Kids: []api.Item{
				{ID: "v", Kind: api.ItemDecision, Exit: []api.Sentry{holds, holds}},
				{ID: "m", Kind: api.ItemMilestone, Entry: []api.Sentry{holds}},
			}},
			{ID: "l", Kind: api.ItemListener},
		}, Table: []api.Item{{ID: "d", Kind: api.ItemCase, Free: true}, {ID: "k", Kind: api.ItemTimer, After: 1 << 31}}},
		{ID: "a", Kind: api.ItemHuman},
	}, Table: []api.Item{{ID: "e", Kind: api.ItemStage, Kids: []api.Item{{ID: "x", Kind: api.ItemHuman}}}}}}
}

// cased makes a case of instances such as "p.1/s.1=6<14": the path, the state, and the state before, if there is one. They are as new ones are otherwise.
func cased(m api.Model, insts string) api.Case {
	c := api.Case{ID: 3, Model: m.ID, Clock: clock, Docs: []api.Doc{{Path: "f#1", Refs: []string{"f#1"}}}}
	for s := range strings.FieldsSeq(insts) {
		path, numbers, _ := strings.Cut(s, "=")
		state, before, _ := strings.Cut(numbers, "<")
		x := api.Inst{Path: path}
		x.Item, _ = tree.Last(path)
		x.State, _ = strconv.Atoi(state)
		x.Before, _ = strconv.Atoi(before)
		i, _ := model.Find(m, x.Item)
		x.Latches = make([]int, len(i.Entry)+len(i.Exit))
		if i.Kind == api.ItemTimer {
			x.Due = clock + i.After
		}
		c.Insts = append(c.Insts, x)
	}
	return c
}

// told makes events of texts such as "p.1/s.1 complete, p.1/s.1/t.1 parentTerminate".
func told(events string) []api.Event {
	var l []api.Event
	for s := range strings.SplitSeq(events, ",") {
		path, name, is := strings.Cut(strings.TrimSpace(s), " ")
		if event, known := model.EventOf(name); is && known {
			l = append(l, api.Event{Path: path, Event: event})
		}
	}
	return l
}

func wantDone(t *testing.T, what string, c api.Case, l []api.Event, err api.Errno, want api.Case, events []api.Event) {
	t.Helper()
	if err != api.OK || !tree.Same(c, want) || !slices.Equal(l, events) {
		t.Errorf("%s: error %d\n%+v\n%v, want\n%+v\n%v", what, err, c, l, want, events)
	}
}

func wantError(t *testing.T, what string, c api.Case, l []api.Event, err, want api.Errno) {
	t.Helper()
	if err != want || !reflect.DeepEqual(c, api.Case{}) || len(l) > 0 {
		t.Errorf("%s: error %d, %+v, %v, want error %d alone", what, err, c, l, want)
	}
}

// wantDo holds that an event leads from a case of the office to another one.
func wantDo(t *testing.T, from, path string, event int, to, events string) {
	t.Helper()
	c, l, err := Do(office(), cased(office(), from), path, event, api.MaxInst)
	wantDone(t, "event "+model.EventName(event)+" of "+path, c, l, err, cased(office(), to), told(events))
}

func wantDoError(t *testing.T, m api.Model, c api.Case, path string, event, most int, want api.Errno) {
	t.Helper()
	got, l, err := Do(m, c, path, event, most)
	wantError(t, "event "+model.EventName(event)+" of "+path, got, l, err, want)
}

func TestOffice(t *testing.T) {
	if err := model.Check(office()); err != api.OK {
		t.Fatal(err)
	}
}

func TestP19_1Alone(t *testing.T) {
	for _, x := range []struct {
		path     string
		event    int
		from, to string
	}{
		{"p.1/a.1", api.EvEnable, "1", "2"}, {"p.1/a.1", api.EvDisable, "2", "3"}, {"p.1/a.1", api.EvReenable, "3", "2"}, {"p.1/a.1", api.EvManual, "2", "4"}, {"p.1/a.1", api.EvStart, "1", "4"},
		{"p.1/a.1", api.EvComplete, "4", "7"}, {"p.1/a.1", api.EvFault, "4", "5"}, {"p.1/a.1", api.EvReactivate, "5", "4"}, {"p.1/a.1", api.EvTerminate, "5", "8"}, {"p.1/a.1", api.EvExit, "3", "8"},
		{"p.1/z.1", api.EvEnable, "1", "2"}, {"p.1/z.1", api.EvReactivate, "5", "4"}, {"p.1/z.1", api.EvResume, "6<4", "4"},
		{"p.1/s.2", api.EvReactivate, "5", "4"}, {"p.1/s.2", api.EvFault, "4", "5"}, {"p.1/s.2", api.EvEnable, "1", "2"}, {"p.1/s.2", api.EvResume, "6<4", "4"},
		{"p.1/s.2/l.4", api.EvOccur, "1", "7"}, {"p.1/s.2/w.1", api.EvOccur, "1", "7"}, {"p.1/s.2/u.1/m.1", api.EvOccur, "1", "7"},
		// Before is the state ahead of Suspended, and nothing in any other state.
		{"p.1/a.1", api.EvSuspend, "4", "6<4"}, {"p.1/a.1", api.EvResume, "6<4", "4"}, {"p.1/a.1", api.EvTerminate, "6<4", "8"}, {"p.1/a.1", api.EvTerminate, "6<14", "8"}, {"p.1/a.1", api.EvFault, "4<14", "5"},
		{"p.1/s.2/l.4", api.EvSuspend, "1", "6<1"}, {"p.1/s.2/l.4", api.EvResume, "6<1", "1"}, {"p.1/s.2/w.1", api.EvSuspend, "1<3", "6<1"},
		// Those that the parent causes can be asked for as well.
		{"p.1/a.1", api.EvParentWait, "1", "6<11"}, {"p.1/a.1", api.EvParentWait, "2", "6<12"}, {"p.1/a.1", api.EvParentWait, "3", "6<13"}, {"p.1/a.1", api.EvParentWait, "4", "6<14"}, {"p.1/a.1", api.EvParentWait, "5", "6<15"},
		{"p.1/a.1", api.EvParentGo, "6<11", "1"}, {"p.1/a.1", api.EvParentGo, "6<12", "2"}, {"p.1/a.1", api.EvParentGo, "6<15", "5"}, {"p.1/z.1", api.EvParentGo, "6<14", "4"}, {"p.1/a.1", api.EvParentStop, "6<4", "8"}, {"p.1/s.2/w.1", api.EvParentWait, "1", "6<11"},
	} {
		wantDo(t, "p.1=4 p.1/k.1=4 "+x.path+"="+x.from+" q.1=4", x.path, x.event, "p.1=4 p.1/k.1=4 "+x.path+"="+x.to+" q.1=4", x.path+" "+model.EventName(x.event))
	}
	wantDo(t, "p.1=5", "p.1", api.EvReactivate, "p.1=4", "p.1 reactivate")
	wantDo(t, "p.1=4", "p.1", api.EvFault, "p.1=5", "p.1 fault")
	wantDo(t, "p.1=4", "p.1", api.EvSuspend, "p.1=6<4", "p.1 suspend")
	wantDo(t, "p.1=6<4", "p.1", api.EvClose, "p.1=9", "p.1 close")
}

func TestP19_1None(t *testing.T) {
	c := cased(office(), "p.1=4 p.1/a.1=4 p.1/none.1=4 p.1/t.1=4")
	c.Insts[3].Item = "nobody"
	for _, path := range []string{"", "p", "p.2", "p.1/", "p.1/a.2", "a.1", "p.1/a.1/a.1", "p.1/none.1", "p.1/t.1", "\xff"} {
		for _, event := range []int{api.EvComplete, api.EvStart, api.EvClose, 0, -1} {
			for _, most := range []int{-1, 0, 300} {
				wantDoError(t, office(), c, path, event, most, api.ErrNone)
				wantDoError(t, api.Model{}, c, path, event, most, api.ErrNone)
				wantDoError(t, office(), api.Case{}, path, event, most, api.ErrNone)
			}
		}
	}
	// The item of an instance is what Item says.
	c = cased(office(), "p.1=4 p.1/none.1=1 p.1/a.1=1")
	c.Insts[1].Item, c.Insts[2].Item = "a", "l"
	got, l, err := Do(office(), c, "p.1/none.1", api.EvStart, 3)
	want := tree.Copy(c)
	want.Insts[1].State = api.Active
	wantDone(t, "another item", got, l, err, want, told("p.1/none.1 start"))
	wantDoError(t, office(), c, "p.1/a.1", api.EvStart, 3, api.ErrState)
}

// Every event in every state is possible or not as states says.
func TestP19_1State(t *testing.T) {
	many := 0
	for _, path := range []string{"p.1", "p.1/s.1", "p.1/a.1", "p.1/z.1", "p.1/s.1/w.1", "p.1/s.1/l.1", "p.1/s.1/u.1/m.1", "s.1", "a.1", "/a.1"} {
		item, _ := tree.Last(path)
		i, _ := model.Find(office(), item)
		for state := -1; state <= 10; state++ {
			for before := -1; before <= 21; before++ {
				c := api.Case{Insts: []api.Inst{{Path: path, Item: item, State: state, Before: before}}}
				for event := -1; event <= 28; event++ {
					_, is := states.Next(i.Kind, tree.Up(path) == "", state, before, event)
					if !is {
						many++
						wantDoError(t, office(), c, path, event, 0, api.ErrState)
						continue
					}
					got, l, err := Do(office(), c, path, event, api.MaxInst)
					if err != api.OK || len(l) == 0 || len(got.Insts) == 0 {
						t.Fatalf("event %d of %s in %d, before %d: error %d, %v", event, path, state, before, err, l)
					}
				}
			}
		}
	}
	if many < 50000 {
		t.Error("only", many)
	}
	for _, event := range []int{math.MinInt, math.MaxInt, 64 + api.EvComplete, 1<<32 + api.EvComplete} {
		wantDoError(t, office(), cased(office(), "p.1=4"), "p.1", event, 300, api.ErrState)
	}
}

// Of two instances at one path the first one is meant.
func TestP19_1First(t *testing.T) {
	wantDo(t, "p.1=4 p.1/a.1=1 p.1/a.1=4", "p.1/a.1", api.EvStart, "p.1=4 p.1/a.1=4 p.1/a.1=4", "p.1/a.1 start")
	wantDoError(t, office(), cased(office(), "p.1=4 p.1/a.1=1 p.1/a.1=4"), "p.1/a.1", api.EvComplete, 300, api.ErrState)
}

const (
	startedStage  = "p.1/s.1/w.1 create, p.1/s.1/t.1 create, p.1/s.1/u.1 create, p.1/s.1/l.1 create"
	startedInsts  = "p.1/s.1/l.1=1 p.1/s.1/t.1=1 p.1/s.1/u.1=1 p.1/s.1/w.1=1"
	startedBelowU = "p.1/s.1/u.1/m.1=1 p.1/s.1/u.1/v.1=1"
)

func TestP19_1Stage(t *testing.T) {
	wantDo(t, "p.1=4 p.1/s.1=1 p.1/z.1=1", "p.1/s.1", api.EvStart, "p.1=4 p.1/s.1=4 "+startedInsts+" p.1/z.1=1", "p.1/s.1 start, "+startedStage)
	wantDo(t, "p.1=4 p.1/s.1=2 p.1/z.1=1", "p.1/s.1", api.EvManual, "p.1=4 p.1/s.1=4 "+startedInsts+" p.1/z.1=1", "p.1/s.1 manualStart, "+startedStage)
	wantDo(t, "p.1=4 p.1/s.1=4 "+startedInsts, "p.1/s.1/u.1", api.EvStart,
		"p.1=4 p.1/s.1=4 p.1/s.1/l.1=1 p.1/s.1/t.1=1 p.1/s.1/u.1=4 "+startedBelowU+" p.1/s.1/w.1=1", "p.1/s.1/u.1 start, p.1/s.1/u.1/v.1 create, p.1/s.1/u.1/m.1 create")
	// Only these two events make instances.
	for _, event := range []int{api.EvReactivate, api.EvResume, api.EvParentGo} {
		from := map[int]string{api.EvReactivate: "5", api.EvResume: "6<4", api.EvParentGo: "6<14"}[event]
		wantDo(t, "p.1=4 p.1/s.1="+from, "p.1/s.1", event, "p.1=4 p.1/s.1=4", "p.1/s.1 "+model.EventName(event))
	}
	// Numbers go on, whatever is there.
	wantDo(t, "p.1=4 p.1/s.1=1 p.1/s.1/l.9=7 p.1/s.1/t.3=1 p.1/s.1/t.5=8 p.1/s.2/u.7=1", "p.1/s.1", api.EvStart,
		"p.1=4 p.1/s.1=4 p.1/s.1/l.9=7 p.1/s.1/l.10=1 p.1/s.1/t.3=1 p.1/s.1/t.5=8 p.1/s.1/t.6=1 p.1/s.1/u.1=1 p.1/s.1/w.1=1 p.1/s.2/u.7=1",
		"p.1/s.1 start, p.1/s.1/w.1 create, p.1/s.1/t.6 create, p.1/s.1/u.1 create, p.1/s.1/l.10 create")
}

// The fields of new instances, spelt out.
func TestP19_1New(t *testing.T) {
	c := cased(office(), "p.1=4 p.1/s.1=1")
	c.Insts[1].Latches = []int{1, 2, 3}
	c, _, err := Do(office(), c, "p.1/s.1", api.EvStart, 6)
	want := []api.Inst{
		{Path: "p.1", Item: "p", State: api.Active, Latches: []int{0}},
		{Path: "p.1/s.1", Item: "s", State: api.Active, Latches: []int{1, 2, 3}},
		{Path: "p.1/s.1/l.1", Item: "l", State: api.Available},
		{Path: "p.1/s.1/t.1", Item: "t", State: api.Available, Latches: []int{0}},
		{Path: "p.1/s.1/u.1", Item: "u", State: api.Available},
		{Path: "p.1/s.1/w.1", Item: "w", State: api.Available, Due: 12},
	}
	if err != api.OK || !tree.Same(api.Case{Insts: c.Insts}, api.Case{Insts: want}) {
		t.Errorf("error %d, %+v", err, c.Insts)
	}
}

func TestP19_1Due(t *testing.T) {
	m := office()
	for _, x := range []struct{ clock, after, want int }{
		{0, 5, 5}, {1 << 40, 1 << 31, 1<<40 + 1<<31}, {1<<62 - 5, 4, 1<<62 - 1}, {1<<62 - 5, 5, 1 << 62}, {1<<62 - 5, 6, 1 << 62}, {1 << 62, 0, 1 << 62}, {1<<62 + 1, 0, 1 << 62},
		{math.MaxInt, 1, 1 << 62}, {math.MaxInt, math.MaxInt, 1 << 62}, {1, math.MaxInt, 1 << 62}, {math.MinInt, math.MaxInt, -1}, {-5, 3, -2}, {math.MaxInt, -math.MaxInt, 0}, {10, -4, 6}, {math.MaxInt, -1, 1 << 62},
	} {
		c := cased(m, "p.1=4")
		c.Clock = x.clock
		m.Plan.Kids[1].Kids[0].After = x.after
		c, _, err := Create(m, c, "p.1", "w", 9)
		if w, is := tree.Find(c, "p.1/w.1"); err != api.OK || !is || w.Due != x.want || c.Clock != x.clock {
			t.Errorf("clock %d, after %d: error %d, due %d, want %d", x.clock, x.after, err, w.Due, x.want)
		}
	}
	// Others than timers are never due.
	for _, kind := range []int{-1, api.ItemStage, api.ItemHuman, api.ItemMilestone, api.ItemListener, 8} {
		m.Plan.Kids[1].Kids[0].Kind = kind
		if c, _, err := Create(m, cased(m, "p.1=4"), "p.1", "w", 9); err != api.OK || c.Insts[1].Due != 0 {
			t.Errorf("kind %d: error %d, %+v", kind, err, c)
		}
	}
}

func TestP19_1Free(t *testing.T) {
	wantDo(t, "p.1=4 p.1/z.1=1", "p.1/z.1", api.EvStart, "p.1=4 p.1/z.1=7", "p.1/z.1 start, p.1/z.1 complete")
	wantDo(t, "p.1=4 p.1/z.1=2", "p.1/z.1", api.EvManual, "p.1=4 p.1/z.1=7", "p.1/z.1 manualStart, p.1/z.1 complete")
	// In the same way, with what follows.
	wantDo(t, "p.1=4 p.1/z.1=1 p.1/z.1/a.1=4 p.1/z.1/a.2=7 p.1/z.1/l.1=1 p.1/z.2/a.1=4", "p.1/z.1", api.EvStart, "p.1=4 p.1/z.1=7 p.1/z.1/a.1=8 p.1/z.1/a.2=7 p.1/z.1/l.1=8 p.1/z.2/a.1=4",
		"p.1/z.1 start, p.1/z.1 complete, p.1/z.1/a.1 parentTerminate, p.1/z.1/l.1 parentTerminate")
	// A stage cannot be free, in a model made by hand either.
	m := office()
	m.Plan.Kids[1].Kids[2].Free = true
	c, l, err := Do(m, cased(m, "p.1=4 p.1/u.1=1"), "p.1/u.1", api.EvStart, 4)
	wantDone(t, "a free stage", c, l, err, cased(m, "p.1=4 p.1/u.1=4 p.1/u.1/m.1=1 p.1/u.1/v.1=1"), told("p.1/u.1 start, p.1/u.1/v.1 create, p.1/u.1/m.1 create"))
}
