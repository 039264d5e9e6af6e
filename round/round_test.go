package round_test

import (
	"math"
	"reflect"
	"slices"
	"strconv"
	"strings"
	"testing"

	"dossier/api"
	"dossier/cascade"
	"dossier/model"
	"dossier/round"
	"dossier/tree"
)

// Conditions that hold, and that do not, by the case file of these tests.
const (
	holds   = "f > 5"
	fails   = "f < 5"
	unknown = "1 / 0 = 1 or true"
)

var open = []api.Sentry{{If: holds}}

// on is a sentry that waits for all of some events, such as "a complete".
func on(events ...string) api.Sentry {
	s := api.Sentry{}
	for _, e := range events {
		source, name, _ := strings.Cut(e, " ")
		event, _ := model.EventOf(name)
		s.On = append(s.On, api.OnPart{Item: source, Event: event})
	}
	return s
}

func one(event string) []api.Sentry { return []api.Sentry{on(event)} }

func human(id string) api.Item { return api.Item{ID: id, Kind: api.ItemHuman} }

func stage(id string, kids ...api.Item) api.Item {
	return api.Item{ID: id, Kind: api.ItemStage, Kids: kids}
}

// planned is a model with some items in its plan. It is a valid one.
func planned(t *testing.T, kids ...api.Item) api.Model {
	t.Helper()
	m := api.Model{ID: "m", Files: []api.FileItem{{Name: "f", Kind: api.KindInt}}, Plan: stage("p", kids...)}
	if err := model.Check(m); err != api.OK {
		t.Fatal(err, m)
	}
	return m
}

// cased makes a case of instances such as "p.1/s.1=6<14:0,1": the path, the state, the state before and the latches, if there are any.
func cased(insts string) api.Case {
	c := api.Case{ID: 3, Model: "m", Clock: 7, Docs: []api.Doc{{Path: "f#1", Value: api.Value{Kind: api.KindInt, Int: 9}, Refs: []string{"f#1"}}}}
	for s := range strings.FieldsSeq(insts) {
		s, latches, some := strings.Cut(s, ":")
		path, numbers, _ := strings.Cut(s, "=")
		state, before, _ := strings.Cut(numbers, "<")
		x := api.Inst{Path: path}
		x.Item, _ = tree.Last(path)
		x.State, _ = strconv.Atoi(state)
		x.Before, _ = strconv.Atoi(before)
		for latch := range strings.SplitSeq(latches, ",") {
			if n, err := strconv.Atoi(latch); some && err == nil {
				x.Latches = append(x.Latches, n)
			}
		}
		c.Insts = append(c.Insts, x)
	}
	return c
}

// told makes events of texts such as "p.1/s.1 complete, p.1/s.1/t.1 terminate"; one of a path with "#" is of a case file item.
func told(events string) []api.Event {
	var l []api.Event
	for s := range strings.SplitSeq(events, ",") {
		path, name, is := strings.Cut(strings.TrimSpace(s), " ")
		if event, known := model.EventOf(name); is && known {
			l = append(l, api.Event{Path: path, File: strings.Contains(path, "#"), Event: event})
		}
	}
	return l
}

// spelt is the text of events.
func spelt(l []api.Event) string {
	var texts []string
	for _, e := range l {
		texts = append(texts, e.Path+" "+model.EventName(e.Event))
	}
	return strings.Join(texts, ", ")
}

// wantRound holds what happens in a round, and what becomes of the instances. Nothing else changes.
func wantRound(t *testing.T, m api.Model, c api.Case, l, events, insts string) {
	t.Helper()
	want := tree.Copy(c)
	want.Insts = cased(insts).Insts
	got, happened, err := round.Round(m, c, told(l), len(want.Insts))
	if err != api.OK || spelt(happened) != events || !tree.Same(got, want) {
		t.Errorf("%q: error %d\n%s\n%+v, want\n%s\n%+v", l, err, spelt(happened), got.Insts, events, want.Insts)
	}
	if len(want.Insts) > len(c.Insts) {
		got, happened, err = round.Round(m, c, told(l), len(want.Insts)-1)
		wantBudget(t, "one less", got, happened, err)
	}
}

// wantStill holds that nothing happens but that some latches may be set.
func wantStill(t *testing.T, m api.Model, c api.Case, l, insts string) {
	t.Helper()
	wantRound(t, m, c, l, "", insts)
}

func wantBudget(t *testing.T, what string, c api.Case, l []api.Event, err api.Errno) {
	t.Helper()
	if err != api.ErrBudget || !reflect.DeepEqual(c, api.Case{}) || len(l) > 0 {
		t.Errorf("%s: error %d, %+v, %v, want error %d alone", what, err, c, l, api.ErrBudget)
	}
}

// The events are recorded ahead of everything else.
func TestP24_2Record(t *testing.T) {
	a, b := human("a"), human("b")
	b.Entry = one("a complete")
	m := planned(t, a, b)
	wantRound(t, m, cased("p.1=4 p.1/a.1=7 p.1/b.1=1:0"), "p.1/a.1 complete", "p.1/b.1 start", "p.1=4 p.1/a.1=7 p.1/b.1=4:0")
	for _, l := range []string{"", "p.1/a.1 terminate", "p.1/b.1 complete", "q.1/a.1 complete", "a#1 complete", "p.1 complete"} {
		wantStill(t, m, cased("p.1=4 p.1/a.1=8 p.1/b.1=1:0"), l, "p.1=4 p.1/a.1=8 p.1/b.1=1:0")
	}
	// What was recorded by earlier rounds counts.
	wantRound(t, m, cased("p.1=4 p.1/a.1=7 p.1/b.1=1:1"), "", "p.1/b.1 start", "p.1=4 p.1/a.1=7 p.1/b.1=4:0")
	b.Entry = []api.Sentry{on("a complete", "c complete"), {On: []api.OnPart{{File: "f", Event: api.EvUpdate}}, If: holds}}
	m = planned(t, a, b, human("c"))
	c := cased("p.1=4 p.1/a.1=8 p.1/b.1=1:0,0 p.1/c.1=8")
	wantStill(t, m, c, "p.1/a.1 complete", "p.1=4 p.1/a.1=8 p.1/b.1=1:1,0 p.1/c.1=8")
	wantStill(t, m, c, "p.1/c.1 complete", "p.1=4 p.1/a.1=8 p.1/b.1=1:2,0 p.1/c.1=8")
	for _, l := range []string{"p.1/c.1 complete, p.1/a.1 complete", "p.1/a.1 complete, p.1/c.1 complete", "f#1 update", "f#7 update, p.1/c.1 complete"} {
		wantRound(t, m, c, l, "p.1/b.1 start", "p.1=4 p.1/a.1=8 p.1/b.1=4:0,0 p.1/c.1=8")
	}
	c.Docs = nil
	wantStill(t, m, c, "f#1 update", "p.1=4 p.1/a.1=8 p.1/b.1=1:0,1 p.1/c.1=8")
	// What happens in the round is not recorded by it.
	b.Entry = one("a start")
	m = planned(t, a, b)
	wantRound(t, m, cased("p.1=4 p.1/a.1=1 p.1/b.1=1:0"), "", "p.1/a.1 start", "p.1=4 p.1/a.1=4 p.1/b.1=1:0")
}

// An instance that begins forgets what its entry has seen, but not what its exit has; one that exits forgets nothing.
func TestP24_2Clear(t *testing.T) {
	b := human("b")
	b.Entry = []api.Sentry{on("a complete"), on("c complete", "a start")}
	b.Exit = []api.Sentry{on("a complete", "c start"), on("c exit", "c complete")}
	want := func(b api.Item, was, events, becomes string) {
		t.Helper()
		m, rest := planned(t, human("a"), b, human("c")), " p.1/c.1=4"
		wantRound(t, m, cased("p.1=4 p.1/a.1=7 p.1/b.1="+was+rest), "p.1/a.1 complete, p.1/c.1 complete", events, "p.1=4 p.1/a.1=7 p.1/b.1="+becomes+rest)
	}
	want(b, "1:0,0,0,0", "p.1/b.1 start", "4:0,0,1,2")
	want(b, "1:0,2,2,0", "p.1/b.1 exit", "8:1,3,3,2")
	want(api.Item{ID: "b", Kind: api.ItemMilestone, Entry: b.Entry}, "1:0,0", "p.1/b.1 occur", "7:0,0")
	b.Manual = holds
	want(b, "1:0,0,0,0", "p.1/b.1 enable", "2:0,0,1,2")
	b.Manual, b.Free = fails, true
	want(b, "1:0,0,0,0", "p.1/b.1 start, p.1/b.1 complete", "7:0,0,1,2")
	// One that stays where it is remembers.
	b.Entry[0].If = unknown
	want(b, "1:0,0,0,0", "", "1:1,1,1,2")
	want(b, "4:0,0,0,0", "", "4:1,1,1,2")
}

// A further instance comes right behind the one that repeats, and has seen nothing.
func TestP24_2Again(t *testing.T) {
	x := human("x")
	x.Entry, x.Exit, x.Repeat = one("a complete"), one("a fault"), holds
	m := planned(t, human("a"), x)
	c := cased("p.1=4 p.1/a.1=7 p.1/x.1=1:0,0")
	wantRound(t, m, c, "p.1/a.1 complete", "p.1/x.1 start, p.1/x.2 create", "p.1=4 p.1/a.1=7 p.1/x.1=4:0,0 p.1/x.2=1:0,0")
	wantRound(t, m, c, "p.1/a.1 complete, p.1/a.1 fault", "p.1/x.1 exit, p.1 complete", "p.1=7 p.1/a.1=7 p.1/x.1=8:1,1")
	c = cased("p.1=4 p.1/a.1=7 p.1/x.1=1:0,0 p.1/x.2=3:0,0 p.1/x.5=1:0,0")
	wantRound(t, m, c, "p.1/a.1 complete", "p.1/x.1 start, p.1/x.6 create, p.1/x.5 start, p.1/x.7 create", "p.1=4 p.1/a.1=7 p.1/x.1=4:0,0 p.1/x.2=3:1,0 p.1/x.5=4:0,0 p.1/x.6=1:0,0 p.1/x.7=1:0,0")
	m.Plan.Kids[1].Repeat = fails
	wantRound(t, m, c, "p.1/a.1 complete", "p.1/x.1 start, p.1/x.5 start", "p.1=4 p.1/a.1=7 p.1/x.1=4:0,0 p.1/x.2=3:1,0 p.1/x.5=4:0,0")
	// In a stage, of a kind that is Enabled or occurs, and of a stage itself.
	x.Exit, x.Manual = nil, holds
	o := api.Item{ID: "o", Kind: api.ItemMilestone, Entry: open, Repeat: holds}
	r := stage("r", human("k"))
	r.Entry, r.Repeat = open, holds
	m = planned(t, human("a"), stage("s", x, o, r))
	wantRound(t, m, cased("p.1=4 p.1/a.1=8 p.1/s.1=5 p.1/s.2=4 p.1/s.2/o.1=1:0 p.1/s.2/r.1=1:0 p.1/s.2/x.3=1:1"), "",
		"p.1/s.2/o.1 occur, p.1/s.2/o.2 create, p.1/s.2/r.1 start, p.1/s.2/r.1/k.1 create, p.1/s.2/r.2 create, p.1/s.2/x.3 enable, p.1/s.2/x.4 create",
		"p.1=4 p.1/a.1=8 p.1/s.1=5 p.1/s.2=4 p.1/s.2/o.1=7:0 p.1/s.2/o.2=1:0 p.1/s.2/r.1=4:0 p.1/s.2/r.1/k.1=1 p.1/s.2/r.2=1:0 p.1/s.2/x.3=2:0 p.1/s.2/x.4=1:0")
}

// All transitions come of the case as it was ahead of the first one.
func TestP24_2AtOnce(t *testing.T) {
	x, y := human("x"), human("y")
	x.Entry = []api.Sentry{{If: "number(y, active) = 0"}}
	y.Entry = []api.Sentry{{If: "number(x, active) = 0"}}
	wantRound(t, planned(t, x, y), cased("p.1=4 p.1/x.1=1:0 p.1/y.1=1:0"), "", "p.1/x.1 start, p.1/y.1 start", "p.1=4 p.1/x.1=4:0 p.1/y.1=4:0")
	y.Entry, y.Manual, y.Repeat = one("x start"), "number(x, active) = 0", "number(x, available) = 1"
	wantRound(t, planned(t, x, y), cased("p.1=4 p.1/x.1=1:0 p.1/y.1=1:1"), "", "p.1/x.1 start, p.1/y.1 enable, p.1/y.2 create", "p.1=4 p.1/x.1=4:0 p.1/y.1=2:0 p.1/y.2=1:0")
	// What comes into being waits for the next round.
	inner := stage("s", human("x"), stage("i"))
	wantRound(t, planned(t, inner), cased("p.1=4 p.1/s.1=1"), "", "p.1/s.1 start, p.1/s.1/x.1 create, p.1/s.1/i.1 create", "p.1=4 p.1/s.1=4 p.1/s.1/i.1=1 p.1/s.1/x.1=1")
	wantRound(t, planned(t, inner), cased("p.1=4 p.1/s.1=4 p.1/s.1/i.1=1 p.1/s.1/x.1=1"), "p.1/s.1 start", "p.1/s.1/i.1 start, p.1/s.1/x.1 start", "p.1=4 p.1/s.1=4 p.1/s.1/i.1=4 p.1/s.1/x.1=4")
}

// An exit goes ahead of an entry, and that of an ancestor ahead of everything below it.
func TestP24_2Exit(t *testing.T) {
	x, s := human("x"), stage("s")
	x.Entry, x.Exit = one("a complete"), one("a start")
	s.Exit, s.Kids = one("a fault"), []api.Item{x, human("y"), stage("i", human("h"))}
	m := planned(t, human("a"), s)
	c := cased("p.1=4 p.1/a.1=4 p.1/s.1=4:0 p.1/s.1/i.1=4 p.1/s.1/i.1/h.1=1 p.1/s.1/x.1=1:0,0 p.1/s.1/y.1=1")
	wantRound(t, m, c, "p.1/a.1 complete", "p.1/s.1/i.1/h.1 start, p.1/s.1/x.1 start, p.1/s.1/y.1 start", "p.1=4 p.1/a.1=4 p.1/s.1=4:0 p.1/s.1/i.1=4 p.1/s.1/i.1/h.1=4 p.1/s.1/x.1=4:0,0 p.1/s.1/y.1=4")
	wantRound(t, m, c, "p.1/a.1 complete, p.1/a.1 start", "p.1/s.1/i.1/h.1 start, p.1/s.1/x.1 exit, p.1/s.1/y.1 start", "p.1=4 p.1/a.1=4 p.1/s.1=4:0 p.1/s.1/i.1=4 p.1/s.1/i.1/h.1=4 p.1/s.1/x.1=8:1,1 p.1/s.1/y.1=4")
	wantRound(t, m, c, "p.1/a.1 complete, p.1/a.1 start, p.1/a.1 fault",
		"p.1/s.1 exit, p.1/s.1/i.1 parentTerminate, p.1/s.1/i.1/h.1 parentTerminate, p.1/s.1/x.1 parentTerminate, p.1/s.1/y.1 parentTerminate",
		"p.1=4 p.1/a.1=4 p.1/s.1=8:1 p.1/s.1/i.1=8 p.1/s.1/i.1/h.1=8 p.1/s.1/x.1=8:1,1 p.1/s.1/y.1=8")
	m.Plan.Exit = []api.Sentry{{On: []api.OnPart{{File: "f", Event: api.EvUpdate}}}}
	c = cased("p.1=4:0 p.1/a.1=1 p.1/s.1=4:0 p.1/s.1/x.1=1:1,0 p.1/s.1/y.1=7")
	wantRound(t, m, c, "f#1 update, p.1/a.1 fault", "p.1 exit, p.1/a.1 parentTerminate, p.1/s.1 parentTerminate, p.1/s.1/x.1 parentTerminate", "p.1=8:1 p.1/a.1=8 p.1/s.1=8:1 p.1/s.1/x.1=8:1,0 p.1/s.1/y.1=7")
}

// Those that were ended by a transition and repeat come behind all transitions, in the case as it is then.
func TestP24_2Renew(t *testing.T) {
	a, b := human("a"), human("b")
	a.Free, a.Repeat, b.Free, b.Repeat = true, "number(b, completed) = 1", true, holds
	m := planned(t, a, b)
	wantRound(t, m, cased("p.1=4 p.1/a.1=1 p.1/b.1=1"), "",
		"p.1/a.1 start, p.1/a.1 complete, p.1/b.1 start, p.1/b.1 complete, p.1/a.2 create, p.1/b.2 create", "p.1=4 p.1/a.1=7 p.1/a.2=1 p.1/b.1=7 p.1/b.2=1")
	wantRound(t, m, cased("p.1=4 p.1/a.1=7 p.1/a.2=1 p.1/b.1=1 p.1/b.2=7"), "",
		"p.1/a.2 start, p.1/a.2 complete, p.1/b.1 start, p.1/b.1 complete, p.1/b.3 create", "p.1=4 p.1/a.1=7 p.1/a.2=7 p.1/b.1=7 p.1/b.2=7 p.1/b.3=1")
	// The events that the round is given are not its own.
	wantStill(t, m, cased("p.1=4 p.1/a.1=4 p.1/b.1=7"), "p.1/b.1 complete", "p.1=4 p.1/a.1=4 p.1/b.1=7")
	wantStill(t, m, cased("p.1=4 p.1/a.1=4 p.1/b.1=8"), "p.1/b.1 terminate", "p.1=4 p.1/a.1=4 p.1/b.1=8")
	wantRound(t, m, cased("p.1=4 p.1/a.1=1 p.1/b.1=7"), "p.1/b.1 complete", "p.1/a.1 start, p.1/a.1 complete, p.1/a.2 create", "p.1=4 p.1/a.1=7 p.1/a.2=1 p.1/b.1=7")
	// With an exit or an entry there is none.
	b.Exit = open
	wantRound(t, planned(t, human("a"), b), cased("p.1=4 p.1/a.1=4 p.1/b.1=1:0"), "", "p.1/b.1 exit", "p.1=4 p.1/a.1=4 p.1/b.1=8:0")
	b.Entry, b.Exit, b.Repeat = open, nil, "number(b, available) = 0"
	wantRound(t, planned(t, human("a"), b), cased("p.1=4 p.1/a.1=4 p.1/b.1=1:0"), "", "p.1/b.1 start, p.1/b.1 complete", "p.1=4 p.1/a.1=4 p.1/b.1=7:0")
}

// Stages that are done complete behind that, all of them that are then.
func TestP24_2Complete(t *testing.T) {
	x := human("x")
	x.Exit = one("a complete")
	l := api.Item{ID: "l", Kind: api.ItemListener}
	m := planned(t, human("a"), stage("s", x, l), stage("r", human("y")))
	wantRound(t, m, cased("p.1=4 p.1/a.1=7 p.1/r.1=4 p.1/r.1/y.1=7 p.1/s.1=4 p.1/s.1/l.1=1 p.1/s.1/x.1=4:0"), "p.1/a.1 complete",
		"p.1/s.1/x.1 exit, p.1/r.1 complete, p.1/s.1 complete, p.1/s.1/l.1 parentTerminate", "p.1=4 p.1/a.1=7 p.1/r.1=7 p.1/r.1/y.1=7 p.1/s.1=7 p.1/s.1/l.1=8 p.1/s.1/x.1=8:1")
	wantRound(t, m, cased("p.1=4 p.1/a.1=7 p.1/r.1=7 p.1/s.1=7"), "", "p.1 complete", "p.1=7 p.1/a.1=7 p.1/r.1=7 p.1/s.1=7")
	wantStill(t, m, cased("p.1=4 p.1/a.1=7 p.1/r.1=7 p.1/s.1=4 p.1/s.1/l.1=1 p.1/s.1/x.1=4:0"), "p.1/a.1 exit", "p.1=4 p.1/a.1=7 p.1/r.1=7 p.1/s.1=4 p.1/s.1/l.1=1 p.1/s.1/x.1=4:0")
	// One that is in another one completes first, and that one in the next round.
	m = planned(t, stage("s", stage("i")))
	wantRound(t, m, cased("p.1=4 p.1/s.1=4 p.1/s.1/i.1=4"), "", "p.1/s.1/i.1 complete", "p.1=4 p.1/s.1=4 p.1/s.1/i.1=7")
	wantRound(t, m, cased("p.1=4 p.1/s.1=4 p.1/s.1/i.1=7"), "p.1/s.1/i.1 complete", "p.1/s.1 complete", "p.1=4 p.1/s.1=7 p.1/s.1/i.1=7")
	// What has come by Renew counts, unless the stage has Auto.
	b := human("b")
	b.Free, b.Repeat = true, holds
	m = planned(t, stage("s", b))
	wantRound(t, m, cased("p.1=4 p.1/s.1=4 p.1/s.1/b.1=1"), "", "p.1/s.1/b.1 start, p.1/s.1/b.1 complete, p.1/s.1/b.2 create", "p.1=4 p.1/s.1=4 p.1/s.1/b.1=7 p.1/s.1/b.2=1")
	m.Plan.Kids[0].Auto = true
	wantRound(t, m, cased("p.1=4 p.1/s.1=4 p.1/s.1/b.1=1"), "", "p.1/s.1/b.1 start, p.1/s.1/b.1 complete, p.1/s.1/b.2 create, p.1/s.1 complete, p.1/s.1/b.2 parentTerminate", "p.1=4 p.1/s.1=7 p.1/s.1/b.1=7 p.1/s.1/b.2=8")
}

// A stage that a round made Active does not complete in it.
func TestP24_2Began(t *testing.T) {
	m := planned(t, stage("s"), human("y"))
	wantRound(t, m, cased("p.1=4 p.1/s.1=1 p.1/s.2=4 p.1/y.1=8"), "", "p.1/s.1 start, p.1/s.2 complete", "p.1=4 p.1/s.1=4 p.1/s.2=7 p.1/y.1=8")
	wantRound(t, m, cased("p.1=4 p.1/s.1=4 p.1/s.2=7 p.1/y.1=8"), "p.1/s.1 start, p.1/s.2 complete", "p.1/s.1 complete", "p.1=4 p.1/s.1=7 p.1/s.2=7 p.1/y.1=8")
	wantRound(t, m, cased("p.1=4 p.1/s.1=4 p.1/y.1=8"), "p.1/s.1 manualStart", "p.1/s.1 complete", "p.1=4 p.1/s.1=7 p.1/y.1=8")
	// Events of another path with the same beginning, or of the same instance in its stage, do not count.
	m = planned(t, stage("s", stage("s1")))
	wantRound(t, m, cased("p.1=4 p.1/s.1=1 p.1/s.10=4 p.1/s.11=4 p.1/s.11/s1.1=7"), "", "p.1/s.1 start, p.1/s.1/s1.1 create, p.1/s.10 complete, p.1/s.11 complete", "p.1=4 p.1/s.1=4 p.1/s.1/s1.1=1 p.1/s.10=7 p.1/s.11=7 p.1/s.11/s1.1=7")
	m.Plan.Auto, m.Plan.Kids[0].Auto = true, true
	wantRound(t, m, cased("p.1=4 p.1/s.1=1"), "", "p.1/s.1 start, p.1/s.1/s1.1 create", "p.1=4 p.1/s.1=4 p.1/s.1/s1.1=1")
}

// A stage that completes and repeats comes anew behind all that complete, and what ended before comes once.
func TestP24_2Anew(t *testing.T) {
	s, r, b := stage("s"), stage("r"), human("b")
	s.Repeat, r.Repeat = holds, "number(s, completed) = 1"
	b.Free, b.Repeat = true, holds
	m := planned(t, r, s, b)
	wantRound(t, m, cased("p.1=4 p.1/b.1=1 p.1/r.1=4 p.1/s.1=4"), "",
		"p.1/b.1 start, p.1/b.1 complete, p.1/b.2 create, p.1/r.1 complete, p.1/s.1 complete, p.1/r.2 create, p.1/s.2 create", "p.1=4 p.1/b.1=7 p.1/b.2=1 p.1/r.1=7 p.1/r.2=1 p.1/s.1=7 p.1/s.2=1")
	// Not where it had an entry, nor where what is around it has completed.
	s.Entry = one("b exit")
	wantRound(t, planned(t, s, human("b")), cased("p.1=4 p.1/b.1=4 p.1/s.1=4:0"), "", "p.1/s.1 complete", "p.1=4 p.1/b.1=4 p.1/s.1=7:0")
	m.Plan.Auto = true
	wantRound(t, m, cased("p.1=4 p.1/b.1=1 p.1/r.1=5 p.1/s.1=3"), "",
		"p.1/b.1 start, p.1/b.1 complete, p.1/b.2 create, p.1 complete, p.1/b.2 parentTerminate, p.1/r.1 parentTerminate, p.1/s.1 parentTerminate", "p.1=7 p.1/b.1=7 p.1/b.2=8 p.1/r.1=8 p.1/s.1=8")
}

// In a stage that has failed there may be one that is done, although what is around the failed one is done, too: it ends with that.
func TestP24_2Failed(t *testing.T) {
	m := planned(t, human("a"), stage("s", stage("i", human("h"))))
	wantRound(t, m, cased("p.1=4 p.1/a.1=8 p.1/s.1=5 p.1/s.1/i.1=4 p.1/s.1/i.1/h.1=7"), "p.1/s.1/i.1/h.1 complete",
		"p.1 complete, p.1/s.1 parentTerminate, p.1/s.1/i.1 parentTerminate", "p.1=7 p.1/a.1=8 p.1/s.1=8 p.1/s.1/i.1=8 p.1/s.1/i.1/h.1=7")
	wantRound(t, m, cased("p.1=4 p.1/a.1=4 p.1/s.1=5 p.1/s.1/i.1=4 p.1/s.1/i.1/h.1=7"), "",
		"p.1/s.1/i.1 complete", "p.1=4 p.1/a.1=4 p.1/s.1=5 p.1/s.1/i.1=7 p.1/s.1/i.1/h.1=7")
}

// Too many instances at any step are an error; the limit itself is allowed.
func TestP24_2Budget(t *testing.T) {
	x, b, e := human("x"), human("b"), stage("e")
	x.Entry, x.Repeat = open, holds
	b.Free, b.Repeat, e.Repeat = true, holds, holds
	for _, test := range []struct {
		m     api.Model
		insts string
		many  int
	}{
		{planned(t, stage("s", human("k"), human("l"))), "p.1=4 p.1/s.1=1", 4},
		{planned(t, x), "p.1=4 p.1/x.1=1:0", 3},
		{planned(t, b), "p.1=4 p.1/b.1=1", 3},
		{planned(t, e), "p.1=4 p.1/e.1=4", 3},
		{planned(t, b, e, x), "p.1=4 p.1/b.1=1 p.1/e.1=4 p.1/x.1=1:0", 7},
	} {
		c := cased(test.insts)
		for _, most := range []int{math.MinInt, -1, 0, 1, test.many - 2, test.many - 1} {
			got, l, err := round.Round(test.m, c, nil, most)
			wantBudget(t, test.insts, got, l, err)
		}
		for _, most := range []int{test.many, test.many + 1, api.MaxInst, math.MaxInt} {
			if got, l, err := round.Round(test.m, c, nil, most); err != api.OK || len(got.Insts) != test.many || len(l) < 1 {
				t.Errorf("%s, most %d: error %d, %+v, %v", test.insts, most, err, got, l)
			}
		}
	}
}

func TestP24_2None(t *testing.T) {
	m := planned(t, human("a"), stage("s", human("x")))
	for _, insts := range []string{"", "p.1=7", "p.1=6 p.1/a.1=1", "p.1=4 p.1/a.1=4 p.1/s.1=2", "p.1=4 p.1/none.1=4 p.1/none.2=1 p.1/a.1=4", "q.1=4 q.1/a.1=4", "p.1=8 p.1/a.1=1 p.1/s.1=5 p.1/s.1/x.1=1", "p.1/s.2/x.1=1"} {
		for _, l := range []string{"", "p.1/a.1 complete, f#1 update, none.1 create, p.1/none.1 exit"} {
			wantStill(t, m, cased(insts), l, insts)
			wantStill(t, api.Model{}, cased(insts), l, insts)
		}
	}
	wantStill(t, api.Model{}, cased("p.1=4 p.1/a.1=1"), "", "p.1=4 p.1/a.1=1")
	for _, e := range []api.Event{{}, {File: true, Event: api.EvUpdate}, {Path: "\xff", Event: -1}, {Path: "p.1/a.1", Event: math.MaxInt}} {
		got, l, err := round.Round(m, cased("p.1=4 p.1/a.1=4"), []api.Event{e, e}, 2)
		if err != api.OK || len(l) > 0 || !tree.Same(got, cased("p.1=4 p.1/a.1=4")) {
			t.Errorf("%+v: error %d, %+v, %v", e, err, got, l)
		}
	}
}

// The transitions are performed by the order of paths, also where a case made by hand has another one.
func TestP24_2Order(t *testing.T) {
	m := planned(t, human("a"), human("b"), human("c"))
	wantRound(t, m, cased("p.1=4 p.1/a.1=1 p.1/a.2=1 p.1/a.10=1 p.1/b.1=1 p.1/c.1=1"), "", "p.1/a.1 start, p.1/a.2 start, p.1/a.10 start, p.1/b.1 start, p.1/c.1 start", "p.1=4 p.1/a.1=4 p.1/a.2=4 p.1/a.10=4 p.1/b.1=4 p.1/c.1=4")
	wantRound(t, m, cased("p.1/c.1=1 p.1/a.10=1 p.1=4 p.1/b.1=1 p.1/a.2=1"), "", "p.1/a.2 start, p.1/a.10 start, p.1/b.1 start, p.1/c.1 start", "p.1/c.1=4 p.1/a.10=4 p.1=4 p.1/b.1=4 p.1/a.2=4")
}

// The first rounds of a case, from its beginning to its end.
func TestP24_2Case(t *testing.T) {
	b := human("b")
	b.Entry = one("a complete")
	m := planned(t, human("a"), b)
	c, l, err := cascade.Root(m, 1, 3)
	for _, want := range []string{"p.1/a.1 start", "", "p.1/b.1 start", "", "p.1 complete", ""} {
		if err != api.OK {
			t.Fatal(err)
		}
		if c, l, err = round.Round(m, c, l, 3); spelt(l) != want {
			t.Fatalf("%s, want %s", spelt(l), want)
		}
		if active := slices.IndexFunc(c.Insts, func(x api.Inst) bool { return x.Item != "p" && x.State == api.Active }); want == "" && active >= 0 {
			c, l, err = cascade.Do(m, c, c.Insts[active].Path, api.EvComplete, 3)
		}
	}
	if c.Insts[0].State != api.Completed {
		t.Error(c)
	}
}

// wantFirings holds what some instances do by themselves, such as "p.1/x.1 start again".
func wantFirings(t *testing.T, m api.Model, insts string, want ...string) {
	t.Helper()
	var got []string
	for _, f := range round.Firings(m, cased(insts)) {
		s := spelt([]api.Event{{Path: f.Path, Event: f.Event}})
		if f.Again {
			s += " again"
		}
		got = append(got, s)
	}
	if !slices.Equal(got, want) {
		t.Errorf("%s: %q, want %q", insts, got, want)
	}
}

func TestP24_1Firings(t *testing.T) {
	x, e := human("x"), stage("e", human("k"))
	x.Entry, x.Exit, x.Repeat = one("a complete"), one("a start"), holds
	e.Exit, e.Manual = one("a start"), holds
	m := planned(t, human("a"), stage("s", x, e), api.Item{ID: "l", Kind: api.ItemListener}, api.Item{ID: "o", Kind: api.ItemMilestone})
	m.Plan.Exit = one("s start")
	wantFirings(t, m, "p.1=4:0 p.1/a.1=1 p.1/l.1=1 p.1/o.1=1 p.1/s.1=1", "p.1/a.1 start", "p.1/o.1 occur", "p.1/s.1 start")
	wantFirings(t, m, "p.1=4:0 p.1/a.2=1 p.1/a.10=1 p.1/s.1=4 p.1/s.1/e.1=1:0 p.1/s.1/x.1=1:1,0", "p.1/a.2 start", "p.1/a.10 start", "p.1/s.1/e.1 enable", "p.1/s.1/x.1 start again")
	wantFirings(t, m, "p.1=4:0 p.1/a.1=4 p.1/s.1=4 p.1/s.1/e.1=1:1 p.1/s.1/x.1=1:1,1", "p.1/s.1/e.1 exit", "p.1/s.1/x.1 exit")
	// Below one that exits, however deep, there is none; beside it there are.
	wantFirings(t, m, "p.1=4:0 p.1/s.1=4 p.1/s.1/e.1=4:1 p.1/s.1/e.1/k.1=1 p.1/s.1/e.10=4:0 p.1/s.1/e.10/k.1=1 p.1/s.1/x.1=1:1,0 p.1/s.2=1", "p.1/s.1/e.1 exit", "p.1/s.1/e.10/k.1 start", "p.1/s.1/x.1 start again", "p.1/s.2 start")
	insts := "p.1/a.1=1 p.1/s.1=4 p.1/s.1/e.1=4:1 p.1/s.1/e.1/k.1=1 p.1/s.1/x.1=4:0,1"
	wantFirings(t, m, "p.1=4:1 "+insts, "p.1 exit")
	wantFirings(t, m, "p.1=4:0 "+insts, "p.1/a.1 start", "p.1/s.1/e.1 exit", "p.1/s.1/x.1 exit")
	// Any other transition keeps nothing below it from its own, nor does what is Suspended, has failed or has ended.
	wantFirings(t, m, "p.1=4:0 p.1/s.1=1 p.1/s.1/e.1=4:0 p.1/s.1/e.1/k.1=1", "p.1/s.1 start", "p.1/s.1/e.1/k.1 start")
	wantFirings(t, m, "p.1=5:0 p.1/a.1=1 p.1/s.1=4 p.1/s.1/e.1=6<4:1 p.1/s.1/e.1/k.1=1 p.1/s.1/x.1=1:1,0", "p.1/s.1/x.1 start again")
	wantFirings(t, m, "p.1=8:1 p.1/s.1=5 p.1/s.1/e.1=4:1 p.1/s.1/e.1/k.1=1", "p.1/s.1/e.1/k.1 start")
	for _, insts := range []string{"", "p.1=7:1", "p.1=4", "p.1=4:0 p.1/none.1=1", "q.1=6 q.1/a.1=1"} {
		wantFirings(t, m, insts)
		wantFirings(t, api.Model{}, insts)
	}
	wantFirings(t, api.Model{}, "p.1=4:1 p.1/a.1=1")
}

func TestP24_2Example(t *testing.T) {
	wantStill(t, planned(t, human("a")), cased("p.1=4 p.1/a.1=4"), "", "p.1=4 p.1/a.1=4")
}
