package latch

import (
	"reflect"
	"slices"
	"testing"

	"dossier/api"
	"dossier/model"
	"dossier/tree"
)

func on(item string, event int) api.OnPart { return api.OnPart{Item: item, Event: event} }

func onFile(path string, event int) api.OnPart { return api.OnPart{File: path, Event: event} }

func after(condition string, on ...api.OnPart) api.Sentry { return api.Sentry{On: on, If: condition} }

// review is a model with stages inside stages, and with sentries on all sides.
func review() api.Model {
	done, began := api.EvComplete, api.EvStart
	return api.Model{ID: "review",
		Files: []api.FileItem{{Name: "order", Multi: api.MultiAny, Kids: []api.FileItem{{Name: "total", Kind: api.KindInt}}}, {Name: "note", Multi: api.MultiAny}},
		Plan: api.Item{ID: "p", Exit: []api.Sentry{after("", onFile("note", api.EvCreate))},
			Kids: []api.Item{
				{ID: "a", Kind: api.ItemHuman},
				{ID: "s", Kind: api.ItemStage, Exit: []api.Sentry{after("", on("b", done))}, Kids: []api.Item{
					{ID: "b", Kind: api.ItemHuman, Entry: []api.Sentry{after("", on("c", done), on("a", done), onFile("order.total", api.EvUpdate)), after("order.total > 9"), after("order.total > 5", on("u", began))},
						Exit: []api.Sentry{after("", on("a", done)), after("false", on("d", done))}},
					{ID: "u", Kind: api.ItemStage, Kids: []api.Item{{ID: "c", Kind: api.ItemDecision, Entry: []api.Sentry{after("", on("b", began), on("b", began))}}}},
				}, Table: []api.Item{{ID: "d", Kind: api.ItemCase, Exit: []api.Sentry{after("true", on("b", done))}}}},
				{ID: "z", Kind: api.ItemStage, Kids: []api.Item{{ID: "e", Kind: api.ItemMilestone, Entry: []api.Sentry{after("", on("s", done), on("a", api.EvCreate))}}}},
			}}}
}

func TestReview(t *testing.T) {
	if err := model.Check(review()); err != api.OK {
		t.Fatal(err)
	}
}

func inst(path string, state int, latches ...int) api.Inst {
	item, _ := tree.Last(path)
	return api.Inst{Path: path, Item: item, State: state, Latches: latches}
}

func event(path string, event int) api.Event { return api.Event{Path: path, Event: event} }

func fileEvent(path string, event int) api.Event {
	return api.Event{Path: path, File: true, Event: event}
}

func wantMatch(t *testing.T, path string, o api.OnPart, e api.Event, want bool) {
	t.Helper()
	if is := Matches(review(), inst(path, api.Available), o, e); is != want {
		t.Errorf("Matches(%q, %+v, %+v) = %t", path, o, e, is)
	}
}

// An event of an item is one for all instances of the innermost stage around the item and theirs.
func TestP20_1Scope(t *testing.T) {
	for _, x := range []struct {
		path, item, of string
		want           bool
	}{
		// Side by side in the plan.
		{"p.1/a.1", "s", "p.1/s.1", true}, {"p.1/a.1", "s", "p.1/s.2", true}, {"p.1/a.7", "s", "p.1/s.9", true}, {"p.1/s.1", "a", "p.1/a.3", true},
		// Side by side in one stage, or in another instance of it.
		{"p.1/s.1/b.1", "u", "p.1/s.1/u.1", true}, {"p.1/s.1/b.1", "u", "p.1/s.1/u.3", true}, {"p.1/s.1/b.1", "u", "p.1/s.2/u.1", false}, {"p.1/s.2/b.1", "u", "p.1/s.1/u.1", false}, {"p.1/s.1/b.1", "u", "p.1/s.10/u.1", false},
		{"p.1/s.1/b.1", "d", "p.1/s.1/d.2", true}, {"p.1/s.1/d.1", "b", "p.1/s.1/b.2", true}, {"p.1/s.1/d.1", "b", "p.1/s.3/b.2", false},
		// Further in, and further out.
		{"p.1/s.1/b.1", "c", "p.1/s.1/u.1/c.1", true}, {"p.1/s.1/b.1", "c", "p.1/s.1/u.2/c.5", true}, {"p.1/s.1/b.1", "c", "p.1/s.2/u.1/c.1", false},
		{"p.1/s.1/u.1/c.1", "b", "p.1/s.1/b.1", true}, {"p.1/s.1/u.9/c.1", "b", "p.1/s.1/b.4", true}, {"p.1/s.1/u.1/c.1", "b", "p.1/s.2/b.1", false},
		{"p.1/s.1/u.1/c.1", "a", "p.1/a.1", true}, {"p.1/s.3/u.1/c.1", "a", "p.1/a.2", true}, {"p.1/a.1", "c", "p.1/s.3/u.1/c.1", true},
		// In stages beside each other.
		{"p.1/z.1/e.1", "c", "p.1/s.3/u.1/c.1", true}, {"p.1/s.3/u.1/c.1", "e", "p.1/z.2/e.1", true}, {"p.1/z.1/e.1", "d", "p.1/s.3/d.1", true},
		// Around one another: what is around both counts.
		{"p.1/s.1", "b", "p.1/s.1/b.1", true}, {"p.1/s.1", "b", "p.1/s.2/b.1", true}, {"p.1/s.1/b.1", "s", "p.1/s.1", true}, {"p.1/s.1/b.1", "s", "p.1/s.2", true},
		{"p.1/s.1/u.1", "c", "p.1/s.1/u.2/c.1", true}, {"p.1/s.1/u.1", "c", "p.1/s.2/u.1/c.1", false}, {"p.1/s.1/u.1/c.1", "s", "p.1/s.5", true}, {"p.1/s.1/u.1/c.1", "u", "p.1/s.1/u.5", true}, {"p.1/s.1/u.1/c.1", "u", "p.1/s.5/u.1", false},
		// Nothing is around the plan.
		{"p.1", "a", "p.1/a.1", false}, {"p.1", "c", "p.1/s.1/u.1/c.1", false}, {"p.1/a.1", "p", "p.1", false}, {"p.1/s.1/b.1", "p", "p.1", false}, {"p.1", "p", "p.1", false},
		// The event is one of another item.
		{"p.1/a.1", "s", "p.1/z.1", false}, {"p.1/a.1", "s", "p.1/a.1", false}, {"p.1/a.1", "b", "p.1/s.1", false}, {"p.1/a.1", "s", "p.1/s.1/b.1", false}, {"p.1/a.1", "s", "p.1", false},
		// Paths that are none, or not where the items are.
		{"p.1/a.1", "s", "", false}, {"p.1/a.1", "s", "p.1/s", false}, {"p.1/a.1", "s", "p.1/s.0", false}, {"p.1/a.1", "s", "p.1/s.01", false}, {"p.1/a.1", "s", "p.1/s.1/", false}, {"p.1/a.1", "s", "s.1", false}, {"a.1", "s", "p.1/s.1", false},
		{"p.1/a.1", "s", "p.2/s.1", false}, {"p.1/a.1", "s", "q.1/s.1", false}, {"q.1/p.1/a.1", "s", "q.1/p.1/s.1", true}, {"q.1/p.1/a.1", "s", "p.1/s.1", false}, {"p.1/b.1", "u", "p.1/u.1", false},
		{"p.1/s.1/s.2/b.1", "u", "p.1/s.1/u.1", true}, {"p.1/s.1/s.2/b.1", "u", "p.1/s.1/s.7/u.1", true}, {"p.1/s.1/s.2/b.1", "u", "p.1/s.2/u.1", false}, {"p.1/s.1/p.1/p.2/s.1/a.1", "z", "p.1/z.1", true},
		// Items that are not there.
		{"p.1/a.1", "none", "p.1/none.1", false}, {"p.1/none.1", "a", "p.1/a.1", false}, {"p.1/none.1", "none", "p.1/none.1", false},
	} {
		wantMatch(t, x.path, on(x.item, api.EvComplete), event(x.of, api.EvComplete), x.want)
	}
}

func TestP20_1Event(t *testing.T) {
	for e := -1; e <= 28; e++ {
		for o := -1; o <= 28; o++ {
			wantMatch(t, "p.1/a.1", on("s", o), event("p.1/s.1", e), e == o)
			wantMatch(t, "p.1/a.1", onFile("note", o), fileEvent("note#3", e), e == o)
		}
	}
	// The item of the instance is the one that Item says.
	x := inst("p.1/s.1/b.1", api.Available)
	if x.Item = "a"; !Matches(review(), x, on("u", api.EvStart), event("p.1/s.2/u.1", api.EvStart)) {
		t.Error("the scope of a and u is the plan")
	}
	if x.Item = "none"; Matches(review(), x, on("u", api.EvStart), event("p.1/s.1/u.1", api.EvStart)) {
		t.Error("there is no scope")
	}
	if Matches(api.Model{}, inst("p.1/a.1", 1), on("s", 1), event("p.1/s.1", 1)) || Matches(api.Model{}, api.Inst{}, api.OnPart{}, api.Event{}) {
		t.Error("there is no model")
	}
}

func TestP20_1File(t *testing.T) {
	for _, x := range []struct {
		file, path string
		want       bool
	}{
		{"note", "note#1", true}, {"note", "note#99", true}, {"order.total", "order#1.total#1", true}, {"order.total", "order#7.total#2", true}, {"order", "order#1", true},
		{"note", "order#1", false}, {"order", "order#1.total#1", false}, {"order.total", "order#1", false}, {"total", "order#1.total#1", false}, {"order.total", "order.total", false}, {"note", "note", false}, {"note", "note#0", false}, {"note", "note#01", false}, {"note", "", false}, {"note", "note#1.", false}, {"note", "note#1#1", false}, {"note", "p.1/note.1", false},
		{"none", "none#1", true}, // it is not asked whether the model has it
	} {
		for _, path := range []string{"p.1", "p.1/a.1", "p.1/s.1/u.1/c.1", "p.1/none.1", ""} {
			wantMatch(t, path, onFile(x.file, api.EvUpdate), fileEvent(x.path, api.EvUpdate), x.want)
			wantMatch(t, path, onFile(x.file, api.EvUpdate), event(x.path, api.EvUpdate), false)
		}
	}
	// An instance and a case file item of one name, and on-parts made by hand.
	m := review()
	m.Files[0].Name = "s"
	both, neither := api.OnPart{Item: "s", File: "s", Event: api.EvCreate}, api.OnPart{Event: api.EvCreate}
	for _, e := range []api.Event{event("p.1/s.1", api.EvCreate), fileEvent("p.1/s.1", api.EvCreate), event("s#1", api.EvCreate), fileEvent("s#1", api.EvCreate), event("", api.EvCreate), fileEvent("", api.EvCreate)} {
		x := inst("p.1/a.1", api.Available)
		if Matches(m, x, on("s", api.EvCreate), e) != (e == event("p.1/s.1", api.EvCreate)) || Matches(m, x, onFile("s", api.EvCreate), e) != (e == fileEvent("s#1", api.EvCreate)) {
			t.Errorf("%+v", e)
		}
		if Matches(m, x, both, e) || Matches(m, x, neither, e) || Matches(m, api.Inst{}, neither, e) {
			t.Errorf("%+v matches an on-part that waits for nothing", e)
		}
	}
}

// reviewed is a case with all items of the review.
func reviewed() api.Case {
	return api.Case{ID: 4, Model: "review", Clock: 9, Docs: []api.Doc{{Path: "order#1"}, {Path: "order#1.total#1", Value: api.Value{Kind: api.KindInt, Int: 7}, Refs: []string{"note#1"}}},
		Insts: []api.Inst{
			inst("p.1", api.Active, 0),
			inst("p.1/a.1", api.Active),
			inst("p.1/s.1", api.Active, 0),
			inst("p.1/s.1/b.1", api.Available, 0, 0, 0, 0, 0),
			inst("p.1/s.1/b.2", api.Completed, 0, 0, 0, 0, 0),
			inst("p.1/s.1/d.1", api.Enabled, 0),
			inst("p.1/s.1/u.1", api.Active),
			inst("p.1/s.1/u.1/c.1", api.Available, 0),
			inst("p.1/s.2", api.Active, 0),
			inst("p.1/s.2/b.1", api.Suspended, 0, 0, 0, 0, 0),
			inst("p.1/z.1", api.Failed),
			inst("p.1/z.1/e.1", api.Available, 0),
		}}
}

// with are the reviewed case's instances with other latches, by their paths.
func with(latches map[string][]int) api.Case {
	c := reviewed()
	for k, x := range c.Insts {
		if l, is := latches[x.Path]; is {
			c.Insts[k].Latches = l
		}
	}
	return c
}

func wantCase(t *testing.T, what string, got, want api.Case) {
	t.Helper()
	if !tree.Same(got, want) {
		t.Errorf("%s:\n%+v, want\n%+v", what, got, want)
	}
}

func TestP20_1Latch(t *testing.T) {
	for _, x := range []struct {
		e    api.Event
		want map[string][]int
	}{
		{event("p.1/a.1", api.EvComplete), map[string][]int{"p.1/s.1/b.1": {2, 0, 0, 1, 0}, "p.1/s.2/b.1": {2, 0, 0, 1, 0}}},
		{event("p.1/s.1/u.1/c.1", api.EvComplete), map[string][]int{"p.1/s.1/b.1": {1, 0, 0, 0, 0}}},
		{event("p.1/s.2/u.1/c.1", api.EvComplete), map[string][]int{"p.1/s.2/b.1": {1, 0, 0, 0, 0}}},
		{fileEvent("order#1.total#1", api.EvUpdate), map[string][]int{"p.1/s.1/b.1": {4, 0, 0, 0, 0}, "p.1/s.2/b.1": {4, 0, 0, 0, 0}}},
		{event("p.1/s.1/u.1", api.EvStart), map[string][]int{"p.1/s.1/b.1": {0, 0, 1, 0, 0}}},
		{event("p.1/s.1/d.1", api.EvComplete), map[string][]int{"p.1/s.1/b.1": {0, 0, 0, 0, 1}}},
		{event("p.1/s.1/b.1", api.EvStart), map[string][]int{"p.1/s.1/u.1/c.1": {3}}},
		{event("p.1/s.1/b.2", api.EvComplete), map[string][]int{"p.1/s.1": {1}, "p.1/s.2": {1}, "p.1/s.1/d.1": {1}}},
		{event("p.1/s.2", api.EvComplete), map[string][]int{"p.1/z.1/e.1": {1}}},
		{event("p.1/a.2", api.EvCreate), map[string][]int{"p.1/z.1/e.1": {2}}},
		{fileEvent("note#1", api.EvCreate), map[string][]int{"p.1": {1}}},
		{event("p.1/a.1", api.EvTerminate), nil},
		{fileEvent("order#1.total#1", api.EvReplace), nil},
		{api.Event{}, nil},
	} {
		wantCase(t, "an event", Latch(review(), reviewed(), []api.Event{x.e}), with(x.want))
	}
	wantCase(t, "no events", Latch(review(), reviewed(), nil), reviewed())
	wantCase(t, "no model", Latch(api.Model{}, reviewed(), []api.Event{event("p.1/a.1", api.EvComplete)}), reviewed())
	wantCase(t, "no case", Latch(review(), api.Case{}, []api.Event{event("p.1/a.1", api.EvComplete)}), api.Case{})
	wantCase(t, "several events", Latch(review(), with(map[string][]int{"p.1/s.1/b.1": {1, 0, 8, 0, 0}, "p.1/s.2/b.1": {-8, 3, 2, 1, 0}}), []api.Event{event("p.1/a.1", api.EvComplete), event("p.1/a.1", api.EvComplete), event("p.1/s.2/u.4", api.EvStart)}),
		with(map[string][]int{"p.1/s.1/b.1": {3, 0, 8, 1, 0}, "p.1/s.2/b.1": {-6, 3, 3, 1, 0}}))
}

// Instances that have ended, or do not have the latches of an item, stay as they are.
func TestP20_1LatchNot(t *testing.T) {
	l := []api.Event{event("p.1/a.1", api.EvComplete)}
	for state := -1; state <= 11; state++ {
		c := reviewed()
		c.Insts[3].State, c.Insts[9].State = state, api.Terminated
		want := tree.Copy(c)
		if state != api.Completed && state != api.Terminated && state != api.Closed {
			want.Insts[3].Latches = []int{2, 0, 0, 1, 0}
		}
		wantCase(t, "a state", Latch(review(), c, l), want)
	}
	for _, latches := range [][]int{nil, {0}, {0, 0, 0, 0}, {0, 0, 0, 0, 0, 0}} {
		wantCase(t, "latches", Latch(review(), with(map[string][]int{"p.1/s.1/b.1": latches}), l), with(map[string][]int{"p.1/s.1/b.1": latches, "p.1/s.2/b.1": {2, 0, 0, 1, 0}}))
	}
	c := reviewed()
	c.Insts[3].Item, c.Insts[9].Item = "none", ""
	wantCase(t, "items", Latch(review(), c, l), c)
	// Two at one path are two.
	c = reviewed()
	c.Insts = append(c.Insts, c.Insts[3])
	want := with(map[string][]int{"p.1/s.1/b.1": {2, 0, 0, 1, 0}, "p.1/s.2/b.1": {2, 0, 0, 1, 0}})
	want.Insts = append(want.Insts, want.Insts[3])
	wantCase(t, "twice", Latch(review(), c, l), want)
}

// Record returns an instance of its own, or none.
func TestP20_1Record(t *testing.T) {
	l := []api.Event{event("p.1/a.1", api.EvComplete), event("p.1/a.1", api.EvStart)}
	x := inst("p.1/s.1/b.1", api.Active, 4, 0, 8, 1, 0)
	got, is := Record(review(), x, l)
	if want := inst("p.1/s.1/b.1", api.Active, 6, 0, 8, 1, 0); !is || !reflect.DeepEqual(got, want) || x.Latches[0] != 4 {
		t.Errorf("%+v, %t, of %+v", got, is, x)
	}
	got.Latches[3] = 5
	if again, is := Record(review(), x, l[:1]); !is || again.Latches[3] != 1 || x.Latches[3] != 1 {
		t.Error("latches are shared, or what occurs again does not count")
	}
	for _, y := range []api.Inst{inst("p.1/s.1/b.1", api.Completed, 0, 0, 0, 0, 0), inst("p.1/s.1/b.1", api.Active, 0), inst("p.1/none.1", api.Active), inst("p.1/s.1", api.Active, 0), {}} {
		if got, is := Record(review(), y, l); is || !reflect.DeepEqual(got, api.Inst{}) {
			t.Errorf("%+v, of %+v", got, y)
		}
	}
	if got, is := Record(review(), x, l[1:]); is || !reflect.DeepEqual(got, api.Inst{}) {
		t.Errorf("%+v, of no event that matches", got)
	}
}

func TestP20_1Clear(t *testing.T) {
	full := map[string][]int{"p.1": {5}, "p.1/s.1": {6}, "p.1/s.1/b.1": {1, -2, 3, 4, 5}, "p.1/s.1/b.2": {1, 2, 3, 4, 5}, "p.1/s.1/u.1/c.1": {3}}
	cleared := func(path string, latches ...int) api.Case {
		c := with(full)
		k := slices.IndexFunc(c.Insts, func(x api.Inst) bool { return x.Path == path })
		c.Insts[k].Latches = latches
		return c
	}
	wantCase(t, "entry", Clear(review(), with(full), "p.1/s.1/b.1"), cleared("p.1/s.1/b.1", 0, 0, 0, 4, 5))
	wantCase(t, "one that has ended", Clear(review(), with(full), "p.1/s.1/b.2"), cleared("p.1/s.1/b.2", 0, 0, 0, 4, 5))
	wantCase(t, "entry alone", Clear(review(), with(full), "p.1/s.1/u.1/c.1"), cleared("p.1/s.1/u.1/c.1", 0))
	for _, path := range []string{"p.1", "p.1/a.1", "p.1/s.1", "p.1/s.1/u.1", "", "p.2", "p.1/s.1/b.3", "p.1/s.1/", "b"} {
		wantCase(t, "no entry at "+path, Clear(review(), with(full), path), with(full))
	}
	// As far as it has them.
	for _, latches := range [][]int{nil, {7}, {7, 7}, {7, 7, 7}, {7, 7, 7, 7}, {7, 7, 7, 7, 7, 7, 7}} {
		want := slices.Clone(latches)
		for k := range min(3, len(want)) {
			want[k] = 0
		}
		full["p.1/s.1/b.1"] = latches
		wantCase(t, "some", Clear(review(), with(full), "p.1/s.1/b.1"), cleared("p.1/s.1/b.1", want...))
	}
	full["p.1/s.1/b.1"] = []int{7, 7, 7, 7, 7}
	c := with(full)
	c.Insts[3].Item = "none"
	wantCase(t, "no item", Clear(review(), c, "p.1/s.1/b.1"), c)
	wantCase(t, "no model", Clear(api.Model{}, c, "p.1"), c)
	wantCase(t, "no case", Clear(review(), api.Case{}, ""), api.Case{})
	// Of two at one path the first one is meant.
	c = with(full)
	c.Insts = append(c.Insts, c.Insts[3])
	want := cleared("p.1/s.1/b.1", 0, 0, 0, 7, 7)
	want.Insts = append(want.Insts, c.Insts[3])
	wantCase(t, "twice", Clear(review(), c, "p.1/s.1/b.1"), want)
}
