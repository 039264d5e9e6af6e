package settle_test

import (
	"math"
	"reflect"
	"strconv"
	"strings"
	"testing"

	"dossier/api"
	"dossier/cascade"
	"dossier/model"
	"dossier/sem"
	"dossier/settle"
	"dossier/tree"
)

// Conditions that hold, and that do not, by the case file of these tests.
const (
	holds   = "f > 5"
	fails   = "f < 5"
	unknown = "1 / 0 = 1 or true"
)

const last = "p.1/x.4611686018427387904" // the path of the last number that a new instance can have

var open = []api.Sentry{{If: holds}}

// on is a sentry that waits for all of some events, such as "a complete".
func on(events ...string) api.Sentry {
	s := api.Sentry{}
	for _, e := range events {
		source, name, _ := strings.Cut(e, " ")
		event, _ := model.EventOf(name)
		s.On = append(s.On, api.OnPart{Item: source, Event: event})
	}
	return s
}

func one(event string) []api.Sentry { return []api.Sentry{on(event)} }

func human(id string) api.Item { return api.Item{ID: id, Kind: api.ItemHuman} }

// free is a task that completes as soon as it begins. It begins by an event, or at once if that is "".
func free(id, event string) api.Item {
	i := api.Item{ID: id, Kind: api.ItemProcess, Free: true}
	if event != "" {
		i.Entry = one(event)
	}
	return i
}

func stage(id string, kids ...api.Item) api.Item {
	return api.Item{ID: id, Kind: api.ItemStage, Kids: kids}
}

// planned is a model with some items in its plan. It is a valid one.
func planned(t *testing.T, kids ...api.Item) api.Model {
	t.Helper()
	m := wild(kids...)
	if err := model.Check(m); err != api.OK {
		t.Fatal(err, m)
	}
	return m
}

// wild is a model that need not be valid.
func wild(kids ...api.Item) api.Model {
	return api.Model{ID: "m", Files: []api.FileItem{{Name: "f", Kind: api.KindInt}}, Plan: stage("p", kids...)}
}

// cased makes a case of instances such as "p.1/s.1=6<14:0,1": the path, the state, the state before and the latches, if there are any. One such as "p.1/s.1~r=1" has another item than its path.
func cased(insts string) api.Case {
	c := api.Case{ID: 3, Model: "m", Clock: 7, Docs: []api.Doc{{Path: "f#1", Value: api.Value{Kind: api.KindInt, Int: 9}, Refs: []string{"f#1"}}}}
	for s := range strings.FieldsSeq(insts) {
		s, latches, some := strings.Cut(s, ":")
		path, numbers, _ := strings.Cut(s, "=")
		state, before, _ := strings.Cut(numbers, "<")
		path, item, other := strings.Cut(path, "~")
		if !other {
			item, _ = tree.Last(path)
		}
		x := api.Inst{Path: path, Item: item}
		x.State, _ = strconv.Atoi(state)
		x.Before, _ = strconv.Atoi(before)
		for latch := range strings.SplitSeq(latches, ",") {
			if n, err := strconv.Atoi(latch); some && err == nil {
				x.Latches = append(x.Latches, n)
			}
		}
		c.Insts = append(c.Insts, x)
	}
	return c
}

// told makes events of texts such as "p.1/s.1 complete, f#1 update"; one of a path with "#" is of a case file item.
func told(events string) []api.Event {
	var l []api.Event
	for s := range strings.SplitSeq(events, ",") {
		path, name, is := strings.Cut(strings.TrimSpace(s), " ")
		if event, known := model.EventOf(name); is && known {
			l = append(l, api.Event{Path: path, File: strings.Contains(path, "#"), Event: event})
		}
	}
	return l
}

// orders are some of all kinds: without numbers, forwards, backwards, and with numbers of all sizes.
func orders() [][]int {
	return [][]int{nil, {}, {0}, {1}, {-1}, {2, 0, 1}, {1, 0}, {7, -3, 2, 5}, {0, 0, 1, 1, 2, 2, 3, 3}, {math.MaxInt, math.MinInt, 1 << 40}}
}

// wantSame holds that a propagation ends in the same way for all orders, and as it is defined. It returns the end.
func wantSame(t *testing.T, m api.Model, c api.Case, l []api.Event, most int) (api.Case, api.Gauge, api.Errno) {
	t.Helper()
	want, gauge, wantErr := sem.Settle(m, c, l, most)
	for _, order := range orders() {
		got, g, err := settle.Settle(m, c, l, order, most)
		if err != wantErr || g != gauge || !tree.Same(got, want) {
			t.Errorf("order %v: error %d, %+v\n%+v, want error %d, %+v\n%+v", order, err, g, got.Insts, wantErr, gauge, want.Insts)
		}
	}
	return want, gauge, wantErr
}

// wantSettled holds how a propagation ends: what becomes of the instances, after how many rounds and moves.
func wantSettled(t *testing.T, m api.Model, c api.Case, l, insts string, rounds, moves int) {
	t.Helper()
	want := tree.Copy(c)
	want.Insts = cased(insts).Insts
	got, g, err := wantSame(t, m, c, told(l), len(want.Insts))
	if err != api.OK || g != (api.Gauge{Rounds: rounds, Moves: moves}) || !tree.Same(got, want) {
		t.Errorf("%q: error %d, %+v\n%+v, want %d rounds, %d moves\n%+v", l, err, g, got.Insts, rounds, moves, want.Insts)
	}
	if len(want.Insts) > len(c.Insts) {
		wantBudget(t, m, c, told(l), len(want.Insts)-1)
	}
}

func wantBudget(t *testing.T, m api.Model, c api.Case, l []api.Event, most int) {
	t.Helper()
	got, g, err := wantSame(t, m, c, l, most)
	if err != api.ErrBudget || g != (api.Gauge{}) || !reflect.DeepEqual(got, api.Case{}) {
		t.Errorf("error %d, %+v, %+v, want error %d alone", err, g, got.Insts, api.ErrBudget)
	}
}

// wantRun holds how a new case ends that its own events settle.
func wantRun(t *testing.T, m api.Model, insts string, rounds, moves int) api.Case {
	t.Helper()
	c, l, err := cascade.Root(m, 3, api.MaxInst)
	if err != api.OK {
		t.Fatal(err, m)
	}
	c.Clock, c.Docs = 7, cased("").Docs
	want := cased(insts)
	got, g, err := wantSame(t, m, c, l, len(want.Insts))
	if err != api.OK || g != (api.Gauge{Rounds: rounds, Moves: moves}) || !tree.Same(got, want) {
		t.Errorf("error %d, %+v\n%+v, want %d rounds, %d moves\n%+v", err, g, got.Insts, rounds, moves, want.Insts)
	}
	return want
}

// Where nothing can happen there is one round, which records the events.
func TestP25_1Still(t *testing.T) {
	a, b := human("a"), human("b")
	b.Entry = []api.Sentry{on("a complete", "a fault"), {On: []api.OnPart{{File: "f", Event: api.EvUpdate}}, If: fails}}
	m := planned(t, a, b)
	c := cased("p.1=4 p.1/a.1=4 p.1/b.1=1:0,0")
	wantSettled(t, m, c, "", "p.1=4 p.1/a.1=4 p.1/b.1=1:0,0", 1, 0)
	wantSettled(t, m, c, "p.1/a.1 complete", "p.1=4 p.1/a.1=4 p.1/b.1=1:1,0", 1, 0)
	wantSettled(t, m, c, "f#1 update, p.1/a.1 fault", "p.1=4 p.1/a.1=4 p.1/b.1=1:2,1", 1, 0)
	wantSettled(t, m, c, "p.1/a.1 create, p.1/b.1 complete, q.1/a.1 complete, f#1 create, f#1 create", "p.1=4 p.1/a.1=4 p.1/b.1=1:0,0", 1, 0)
	// Those events are neither moves nor too many.
	wantSettled(t, m, c, strings.Repeat("p.1/a.1 complete, p.1/a.1 start, ", 100), "p.1=4 p.1/a.1=4 p.1/b.1=1:1,0", 1, 0)
	for _, most := range []int{math.MinInt, -1, 0, 2} {
		if got, g, err := wantSame(t, m, c, nil, most); err != api.OK || g != (api.Gauge{Rounds: 1}) || !tree.Same(got, c) {
			t.Error(got, g, err)
		}
	}
	if got, g, err := wantSame(t, api.Model{}, api.Case{}, told("p.1 start, f#1 update"), 0); err != api.OK || g != (api.Gauge{Rounds: 1}) || !reflect.DeepEqual(got, api.Case{}) {
		t.Error(got, g, err)
	}
}

// Cases that have just been created: the last round is that without events, and what is created is no move.
func TestP25_1Root(t *testing.T) {
	wantRun(t, planned(t), "p.1=7", 2, 1)
	wantRun(t, planned(t, human("a")), "p.1=4 p.1/a.1=4", 2, 1)
	c := wantRun(t, planned(t, human("a"), api.Item{ID: "b", Kind: api.ItemHuman, Manual: holds}), "p.1=4 p.1/a.1=4 p.1/b.1=2", 2, 2)
	wantSettled(t, planned(t, human("a"), human("b")), c, "", "p.1=4 p.1/a.1=4 p.1/b.1=2", 1, 0)
	wantRun(t, planned(t, free("a", "")), "p.1=7 p.1/a.1=7", 2, 3)
	wantRun(t, planned(t, free("a", ""), free("b", "")), "p.1=7 p.1/a.1=7 p.1/b.1=7", 2, 5)
	wantRun(t, planned(t, stage("s", human("a"), stage("r", human("b")))), "p.1=4 p.1/s.1=4 p.1/s.1/a.1=4 p.1/s.1/r.1=4 p.1/s.1/r.1/b.1=4", 4, 4)
	// A stage that began completes in the round behind it, and the one around it then.
	wantRun(t, planned(t, stage("s", stage("r"))), "p.1=7 p.1/s.1=7 p.1/s.1/r.1=7", 6, 5)
	wantRun(t, planned(t, stage("s"), human("a")), "p.1=4 p.1/a.1=4 p.1/s.1=7", 3, 3)
}

// What an event causes goes on from round to round.
func TestP25_1Chain(t *testing.T) {
	o := api.Item{ID: "o", Kind: api.ItemMilestone, Entry: one("d complete")}
	d := free("d", "b complete")
	d.Entry[0].On = on("b complete", "c complete").On
	m := planned(t, human("a"), free("b", "a complete"), free("c", "b complete"), d, o, human("e"))
	was := "p.1=4 p.1/a.1=7 p.1/b.1=1:0 p.1/c.1=1:0 p.1/d.1=1:0 p.1/e.1=4 p.1/o.1=1:0"
	wantSettled(t, m, cased(was), "p.1/a.1 terminate", was, 1, 0)
	wantSettled(t, m, cased(was), "p.1/c.1 complete, p.1/b.1 complete", "p.1=4 p.1/a.1=7 p.1/b.1=1:0 p.1/c.1=7:0 p.1/d.1=7:0 p.1/e.1=4 p.1/o.1=7:0", 3, 5)
	// An on-part may be met once more behind the transition.
	wantSettled(t, m, cased(was), "p.1/a.1 complete", "p.1=4 p.1/a.1=7 p.1/b.1=7:0 p.1/c.1=7:0 p.1/d.1=7:0 p.1/e.1=4 p.1/o.1=7:0", 5, 7)
	wantSettled(t, m, cased(strings.ReplaceAll(was, "e.1=4", "e.1=7")), "p.1/a.1 complete", "p.1=7 p.1/a.1=7 p.1/b.1=7:0 p.1/c.1=7:0 p.1/d.1=7:0 p.1/e.1=7 p.1/o.1=7:0", 5, 8)
	// What has begun records on, for its exit, too.
	x := human("x")
	x.Entry, x.Exit = one("b complete"), one("d complete")
	m = planned(t, human("a"), free("b", "a complete"), free("c", "b complete"), d, x, human("e"))
	wantSettled(t, m, cased("p.1=4 p.1/a.1=7 p.1/b.1=1:0 p.1/c.1=1:0 p.1/d.1=1:0 p.1/e.1=4 p.1/x.1=1:0,0"), "p.1/a.1 complete",
		"p.1=4 p.1/a.1=7 p.1/b.1=7:0 p.1/c.1=7:0 p.1/d.1=7:0 p.1/e.1=4 p.1/x.1=8:0,1", 5, 8)
}

// All of a round happens at once: an exit goes ahead of an entry, and that of an ancestor ahead of what is below.
func TestP25_1AtOnce(t *testing.T) {
	x := human("x")
	x.Entry, x.Exit = one("a complete"), one("a complete")
	wantSettled(t, planned(t, human("a"), human("b"), x), cased("p.1=4 p.1/a.1=7 p.1/b.1=4 p.1/x.1=1:0,0"), "p.1/a.1 complete", "p.1=4 p.1/a.1=7 p.1/b.1=4 p.1/x.1=8:1,1", 2, 1)
	x.Exit = nil
	y := x
	y.ID = "y"
	s := stage("s", x, stage("r", y))
	s.Exit = one("a complete")
	wantSettled(t, planned(t, human("a"), human("b"), s), cased("p.1=4 p.1/a.1=7 p.1/b.1=4 p.1/s.1=4:0 p.1/s.1/r.1=4 p.1/s.1/r.1/y.1=1:0 p.1/s.1/x.1=1:0"), "p.1/a.1 complete",
		"p.1=4 p.1/a.1=7 p.1/b.1=4 p.1/s.1=8:1 p.1/s.1/r.1=8 p.1/s.1/r.1/y.1=8:1 p.1/s.1/x.1=8:1", 2, 4)
}

// A further instance, a new one and the kids of a stage are considered like those that were there before.
func TestP25_1Created(t *testing.T) {
	x := free("x", "a complete")
	x.Repeat = holds
	y := free("y", "")
	y.Repeat = "number(y, completed) < 3"
	m := planned(t, human("a"), x, y)
	wantSettled(t, m, cased("p.1=4 p.1/a.1=4 p.1/x.1=1:1 p.1/y.1=7 p.1/y.2=7 p.1/y.3=7"), "", "p.1=4 p.1/a.1=4 p.1/x.1=7:0 p.1/x.2=1:0 p.1/y.1=7 p.1/y.2=7 p.1/y.3=7", 2, 2)
	wantSettled(t, m, cased("p.1=4 p.1/a.1=4 p.1/x.1=1:0 p.1/y.1=1"), "", "p.1=4 p.1/a.1=4 p.1/x.1=1:0 p.1/y.1=7 p.1/y.2=7 p.1/y.3=7", 4, 6)
	// The stage in which instances come again and again is done as soon as none does.
	s := stage("s", y)
	s.Entry, s.Repeat = one("a complete"), "number(s, available) = 1"
	wantSettled(t, planned(t, human("a"), s), cased("p.1=4 p.1/a.1=4 p.1/s.1=1:0 p.1/s.2=1:0"), "p.1/a.1 complete",
		"p.1=4 p.1/a.1=4 p.1/s.1=7:0 p.1/s.1/y.1=7 p.1/s.1/y.2=7 p.1/s.2=7:0 p.1/s.2/y.1=7 p.1/s.2/y.2=7", 4, 12)
}

// What asks for a condition is considered in each round, whatever it waits for besides.
func TestP25_1Conditions(t *testing.T) {
	x, y := human("x"), human("y")
	x.Entry = []api.Sentry{{If: "number(b, completed) = 1"}}
	y.Exit = []api.Sentry{on("a complete")}
	y.Exit[0].If = "number(x, active) = 1"
	m := planned(t, human("a"), free("b", "a complete"), x, y)
	was := "p.1=4 p.1/a.1=4 p.1/b.1=1:0 p.1/x.1=1:0 p.1/y.1=4:0"
	wantSettled(t, m, cased(was), "", was, 1, 0)
	wantSettled(t, m, cased(was), "p.1/a.1 complete", "p.1=4 p.1/a.1=4 p.1/b.1=7:0 p.1/x.1=4:0 p.1/y.1=8:1", 4, 4)
	// So is what is in a table, in whichever stage.
	s := stage("s", human("k"))
	s.Table = []api.Item{x}
	m = planned(t, human("a"), free("b", "a complete"), stage("r", s))
	wantSettled(t, m, cased("p.1=4 p.1/a.1=4 p.1/b.1=1:0 p.1/r.1=4 p.1/r.1/s.1=4 p.1/r.1/s.1/k.1=4 p.1/r.1/s.1/x.1=1:0"), "p.1/a.1 complete",
		"p.1=4 p.1/a.1=4 p.1/b.1=7:0 p.1/r.1=4 p.1/r.1/s.1=4 p.1/r.1/s.1/k.1=4 p.1/r.1/s.1/x.1=4:0", 3, 3)
	m = planned(t, human("a"), free("b", "a complete"))
	m.Plan.Exit = x.Entry
	wantSettled(t, m, cased("p.1=4:0 p.1/a.1=4 p.1/b.1=1:0"), "p.1/a.1 complete", "p.1=8:0 p.1/a.1=8 p.1/b.1=7:0", 3, 4)
}

// What was there before its stage began is considered when it does.
func TestP25_1Before(t *testing.T) {
	m := planned(t, stage("s", human("x")), human("a"))
	wantSettled(t, m, cased("p.1=4 p.1/a.1=4 p.1/s.1=1 p.1/s.1/x.1=1 p.1/s.1/x.2=7"), "", "p.1=4 p.1/a.1=4 p.1/s.1=4 p.1/s.1/x.1=4 p.1/s.1/x.2=7 p.1/s.1/x.3=4", 3, 3)
}

// What is kept from a transition by an exit above it makes it in the next round, if that exit did not come to pass: here a new instance takes the place of what exits.
func TestP25_1Kept(t *testing.T) {
	x, y := api.Item{ID: "x", Kind: api.ItemMilestone, Entry: one("a complete"), Repeat: holds}, human("y")
	y.Exit = one("a fault")
	m := planned(t, human("a"), x, y, stage("s", human("k")))
	wantSettled(t, m, cased("p.1=4 p.1/a.1=4 p.1/x.3=1:1 "+last+"~y=4:1 "+last+"/s.1=4 "+last+"/s.1/k.1=1"), "", "p.1=4 p.1/a.1=4 p.1/x.3=7:0 "+last+"=1:0 "+last+"/s.1=4 "+last+"/s.1/k.1=4", 3, 2)
}

// The top of a case can't be stopped, so that one at another top exits behind it.
func TestP25_1Tops(t *testing.T) {
	m := planned(t, human("a"))
	m.Plan.Exit, m.Plan.Table = one("a complete"), []api.Item{human("d")}
	wantSettled(t, m, cased("~p=4:1 /p.1=4:1"), "", "~p=8:1 /p.1=8:1", 3, 2)
}

// The limit is for instances that come, in whichever round.
func TestP25_1Budget(t *testing.T) {
	o := api.Item{ID: "o", Kind: api.ItemMilestone, Entry: open, Repeat: holds}
	m := planned(t, o)
	c, l, err := cascade.Root(m, 1, 2)
	if err != api.OK {
		t.Fatal(err)
	}
	c.Docs = cased("").Docs
	for _, most := range []int{-1, 0, 1, 2, 3, 10, 50, api.MaxInst} {
		wantBudget(t, m, c, l, most)
	}
	o.Repeat = "number(o, completed) < 3"
	m = planned(t, o, human("a"))
	wantSettled(t, m, cased("p.1=4 p.1/a.1=4 p.1/o.1=1:0"), "", "p.1=4 p.1/a.1=4 p.1/o.1=7:0 p.1/o.2=7:0 p.1/o.3=7:0 p.1/o.4=7:0", 5, 4)
	// Too many that were there before are, as soon as something happens.
	wantBudget(t, m, cased("p.1=4 p.1/a.1=1 p.1/o.1=7:0"), nil, 2)
	wantBudget(t, m, cased("p.1=4 p.1/a.1=7 p.1/o.1=7:0"), nil, 2)
}

// Stages that are done complete in the order of the list if one is below another one.
func TestP25_2Ends(t *testing.T) {
	m := planned(t, stage("s", stage("r", stage("q"))), stage("u"))
	wantSettled(t, m, cased("p.1=4 p.1/s.1=4 p.1/s.1/r.1=5 p.1/s.1/r.1/q.1=4 p.1/u.1=4"), "", "p.1=7 p.1/s.1=7 p.1/s.1/r.1=8 p.1/s.1/r.1/q.1=8 p.1/u.1=7", 3, 5)
	wantSettled(t, m, cased("p.1=4 p.1/s.1/r.1/q.1=4 p.1/s.1=4 p.1/s.1/r.1=5 p.1/u.1=4"), "", "p.1=7 p.1/s.1/r.1/q.1=7 p.1/s.1=7 p.1/s.1/r.1=8 p.1/u.1=7", 3, 5)
	wantSettled(t, m, cased("p.1=4 p.1/s.1/r.1/q.1=4 p.1/s.1=4 p.1/s.1/r.1/q.2=4 p.1/s.1/r.1=5 p.1/u.1=4"), "", "p.1=7 p.1/s.1/r.1/q.1=7 p.1/s.1=7 p.1/s.1/r.1/q.2=8 p.1/s.1/r.1=8 p.1/u.1=7", 3, 6)
}

// In cases made by hand there may be something below a task: it goes behind the task, which stops it if it completes.
func TestP25_2Below(t *testing.T) {
	m := planned(t, free("x", ""), human("a"), stage("s", human("k")))
	was := cased("p.1=4 p.1/a.1=4 p.1/s.1=1 p.1/x.1=1 p.1/x.1/s.1=4 p.1/x.1/s.1/k.1=1 p.1/x.1/s.1/s.1=1")
	wantSettled(t, m, was, "", "p.1=4 p.1/a.1=4 p.1/s.1=4 p.1/s.1/k.1=4 p.1/x.1=7 p.1/x.1/s.1=8 p.1/x.1/s.1/k.1=8 p.1/x.1/s.1/s.1=8", 3, 7)
}

// At the last number a further instance takes the place of another one, so that those beside it keep their sequence.
func TestP25_2Last(t *testing.T) {
	x, y := human("x"), human("y")
	x.Entry, x.Repeat = one("a complete"), holds
	m := planned(t, human("a"), x, y)
	// What begins has its place taken then, or was taken before.
	wantSettled(t, m, cased("p.1=4 p.1/a.1=4 "+last+"~y=1 p.1/y.1~x=1:1"), "", "p.1=4 p.1/a.1=4 "+last+"=1:0 p.1/y.1~x=4:0", 2, 2)
	wantSettled(t, m, cased("p.1=4 p.1/a.1=4 p.1/x.3=1:1 "+last+"~y=1"), "", "p.1=4 p.1/a.1=4 p.1/x.3=4:0 "+last+"=4:0", 2, 2)
	// Both repeat; what the second one would do can't be done by what has taken its place.
	m = planned(t, human("a"), x, api.Item{ID: "y", Kind: api.ItemMilestone, Entry: one("a fault"), Repeat: holds})
	wantSettled(t, m, cased("p.1=4 p.1/a.1=4 p.1/x.3=1:1 "+last+"~y=1:1"), "", "p.1=4 p.1/a.1=4 p.1/x.3=4:0 "+last+"=1:0", 2, 1)
	wantSettled(t, m, cased("p.1=4 p.1/a.1=4 "+last+"~y=1:1 p.1/y.1~x=1:1"), "", "p.1=4 p.1/a.1=4 "+last+"=1:0 p.1/y.1~x=4:0 p.1/y.2=1:0", 2, 2)
}

// What would go on without end, since new instances take the places of others, is too much.
func TestP25_3Endless(t *testing.T) {
	o := api.Item{ID: "o", Kind: api.ItemMilestone, Entry: open, Repeat: holds}
	m := planned(t, o, human("a"))
	for _, most := range []int{3, 4, api.MaxInst, math.MaxInt} {
		wantBudget(t, m, cased("p.1=4 p.1/a.1=4 p.1/o.4611686018427387904=1:0"), nil, most)
	}
	x := free("", "")
	x.Repeat = holds
	wantBudget(t, wild(x), cased("p.1=4 p.1/.1=1"), nil, math.MaxInt)
	wantSettled(t, m, cased("p.1=4 p.1/a.1=4 p.1/o.4611686018427387904=7:0"), "", "p.1=4 p.1/a.1=4 p.1/o.4611686018427387904=7:0", 1, 0)
}
