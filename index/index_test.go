package index

import (
	"slices"
	"strconv"
	"strings"
	"testing"

	"dossier/api"
	"dossier/latch"
	"dossier/model"
	"dossier/tree"
)

func on(item string, event int) api.OnPart { return api.OnPart{Item: item, Event: event} }

func onFile(path string, event int) api.OnPart { return api.OnPart{File: path, Event: event} }

func after(on ...api.OnPart) api.Sentry { return api.Sentry{On: on} }

// clinic is a model whose items are in another order than their IDs, and in which most on-parts wait for z.
func clinic() api.Model {
	done, began := api.EvComplete, api.EvStart
	files := []api.FileItem{{Name: "f", Multi: api.MultiAny, Kids: []api.FileItem{{Name: "g", Kind: api.KindInt}}}, {Name: "z", Multi: api.MultiAny}}
	return api.Model{ID: "clinic", Files: files, Plan: api.Item{ID: "p", Exit: []api.Sentry{after(onFile("f", api.EvCreate))},
		Kids: []api.Item{
			{ID: "z", Kind: api.ItemHuman},
			{ID: "s", Kind: api.ItemStage, Entry: []api.Sentry{after(on("z", done))}, Exit: []api.Sentry{after(on("z", done), onFile("f.g", api.EvUpdate)), after(onFile("f", api.EvCreate))},
				Kids: []api.Item{
					{ID: "b", Kind: api.ItemHuman, Entry: []api.Sentry{after(on("z", done), on("z", began), on("z", done)), {If: "true"}}, Exit: []api.Sentry{after(on("z", done))}},
					{ID: "v", Kind: api.ItemStage, Kids: []api.Item{{ID: "c", Kind: api.ItemMilestone, Entry: []api.Sentry{after(on("b", done), on("z", done))}}}},
				},
				Table: []api.Item{{ID: "d", Kind: api.ItemCase, Exit: []api.Sentry{after(on("b", done)), after(on("c", api.EvOccur), on("b", done))}}},
			},
			{ID: "a", Kind: api.ItemHuman, Entry: []api.Sentry{after(on("s", done), on("z", done)), after(onFile("f.g", api.EvUpdate), onFile("f.g", api.EvUpdate), onFile("z", api.EvReplace))}},
		},
		Table: []api.Item{{ID: "e", Kind: api.ItemProcess, Entry: []api.Sentry{after(on("z", done)), after(onFile("f", api.EvCreate))}}},
	}}
}

func TestClinic(t *testing.T) {
	if err := model.Check(clinic()); err != api.OK {
		t.Fatal(err)
	}
}

func event(path string, event int) api.Event { return api.Event{Path: path, Event: event} }

func fileEvent(path string, event int) api.Event {
	return api.Event{Path: path, File: true, Event: event}
}

// written are hooks as a text, such as "b entry 0.2, b exit 0.0".
func written(l []api.Hook) string {
	var s []string
	for _, h := range l {
		side := " exit "
		if h.Entry {
			side = " entry "
		}
		s = append(s, h.Item+side+strconv.Itoa(h.Sentry)+"."+strconv.Itoa(h.Part))
	}
	return strings.Join(s, ", ")
}

func wantFor(t *testing.T, m api.Model, e api.Event, want string) {
	t.Helper()
	if got := written(New(m).For(e)); got != want {
		t.Errorf("%+v: %s, want %s", e, got, want)
	}
}

const (
	untilZ  = "s entry 0.0, s exit 0.0, b entry 0.0, b entry 0.2, b exit 0.0, c entry 0.1, a entry 0.1, e entry 0.0"
	untilB  = "c entry 0.0, d exit 0.0, d exit 1.1"
	untilF  = "p exit 0.0, s exit 1.0, e entry 1.0"
	untilFG = "s exit 0.1, a entry 1.0, a entry 1.1"
)

func TestP21_1For(t *testing.T) {
	for _, x := range []struct {
		e    api.Event
		want string
	}{
		{event("p.1/z.1", api.EvComplete), untilZ},
		{event("p.1/z.1", api.EvStart), "b entry 0.1"},
		{event("p.1/z.1", api.EvTerminate), ""},
		{event("p.1/s.1/b.1", api.EvComplete), untilB},
		{event("p.1/s.1", api.EvComplete), "a entry 0.0"},
		{event("p.1/s.1/v.1/c.1", api.EvOccur), "d exit 1.0"},
		{event("p.1/s.1/v.1/c.1", api.EvComplete), ""},
		{event("p.1/a.1", api.EvComplete), ""},
		{event("p.1", api.EvComplete), ""},
		{event("p.1/none.1", api.EvComplete), ""},
		{fileEvent("f#1", api.EvCreate), untilF},
		{fileEvent("f#1.g#1", api.EvUpdate), untilFG},
		{fileEvent("f#1", api.EvUpdate), ""},
		{fileEvent("f#1.g#1", api.EvCreate), ""},
		{fileEvent("z#1", api.EvReplace), "a entry 1.2"},
		{fileEvent("none#1", api.EvCreate), ""},
		// One name of an item and of a case file item.
		{event("p.1/z.1", api.EvReplace), ""}, {fileEvent("z#1", api.EvComplete), ""}, {fileEvent("z#1", api.EvStart), ""}, {event("p.1/f.1", api.EvCreate), ""},
	} {
		wantFor(t, clinic(), x.e, x.want)
	}
	for e := -1; e <= 30; e++ {
		if l := New(clinic()).For(event("p.1/z.1", e)); len(l) > 0 != (e == api.EvComplete || e == api.EvStart) {
			t.Error(e, l)
		}
	}
}

// The item is that of the last part, the definition that of the whole path; where the instance is makes no difference.
func TestP21_1Paths(t *testing.T) {
	for _, path := range []string{"z.1", "p.1/z.77", "p.1/s.4/z.2", "x/z.1", "/z.1", "z.1/z.1", "p.1/s.1/v.1/c.1/z." + strconv.Itoa(1<<62)} {
		wantFor(t, clinic(), event(path, api.EvComplete), untilZ)
	}
	for _, path := range []string{"", "z", "p.1/z", "p.1/z.0", "p.1/z.01", "p.1/z.-1", "p.1/z.1/", "p.1/z.1.1", "p.1/z.", "p.1/.1", "p.1/Z.1", "z#1", "p.1/z.1/none", "p.1/\xff.1", "z.9223372036854775808"} {
		wantFor(t, clinic(), event(path, api.EvComplete), "")
		wantFor(t, clinic(), event(path, api.EvCreate), "")
		wantFor(t, clinic(), fileEvent(path, api.EvComplete), "")
	}
	for path, want := range map[string]string{"f#1.g#1": untilFG, "f#12.g#3": untilFG, "f#1": "", "g#1": "", "f.g": "", "f#1.g": "", "f#0.g#1": "", "f#1.g#1.g#1": "", "": "", "f#1.g#1.": "", "f#1.g#01": "", "p.1/z.1": ""} {
		wantFor(t, clinic(), fileEvent(path, api.EvUpdate), want)
		wantFor(t, clinic(), event(path, api.EvUpdate), "")
	}
}

// Models that are none have an index as well.
func TestP21_1MadeByHand(t *testing.T) {
	wantFor(t, api.Model{}, event("p.1/z.1", api.EvComplete), "")
	wantFor(t, api.Model{}, api.Event{}, "")
	// Items of one ID have each their own on-parts.
	m := clinic()
	m.Plan.Kids[0] = m.Plan.Table[0]
	m.Plan.Kids[2].ID = "e"
	wantFor(t, m, event("p.1/z.1", api.EvComplete), "e entry 0.0, s entry 0.0, s exit 0.0, b entry 0.0, b entry 0.2, b exit 0.0, c entry 0.1, e entry 0.1, e entry 0.0")
	// The plan, listeners and timers with sentries.
	m = clinic()
	m.Plan.Entry = []api.Sentry{{}, after(on("z", api.EvStart), on("", api.EvStart), on("z", api.EvStart))}
	m.Plan.Kids[0] = api.Item{ID: "z", Kind: api.ItemTimer, Exit: []api.Sentry{after(on("z", api.EvStart))}}
	wantFor(t, m, event("p.1/z.1", api.EvStart), "p entry 1.0, p entry 1.2, z exit 0.0, b entry 0.1")
	// An on-part with two sources fits events of each, one with none fits none.
	both, neither := api.OnPart{Item: "s", File: "s", Event: -7}, api.OnPart{Event: -7}
	m.Plan.Entry = []api.Sentry{after(neither, both), after(on("s", -7), onFile("s", -7))}
	wantFor(t, m, event("p.1/s.1", -7), "p entry 0.1, p entry 1.0")
	wantFor(t, m, fileEvent("s#1", -7), "p entry 0.1, p entry 1.1")
	for _, path := range []string{"", "s", ".1", "/.1", "s.1/"} {
		wantFor(t, m, event(path, -7), "")
		wantFor(t, m, fileEvent(path, -7), "")
	}
}

// A model that is deep takes no more memory than it has items.
func TestP21_1Deep(t *testing.T) {
	const levels = 1 << 16
	i := api.Item{ID: "last", Kind: api.ItemHuman, Exit: []api.Sentry{after(on("p", api.EvStart))}}
	for range levels {
		i = api.Item{ID: "s", Kind: api.ItemStage, Kids: []api.Item{i}}
	}
	m := api.Model{Plan: i}
	m.Plan.ID = "p"
	x := New(m)
	if got := written(x.For(event("p.1", api.EvStart))); got != "last exit 0.0" {
		t.Error(got)
	}
}

func TestP21_1Example(t *testing.T) {
	if l := New(clinic()).For(event("p.1/s.1/d.1", api.EvComplete)); len(l) > 0 {
		t.Error(l)
	}
}

// inst is an instance with latches of zeros, as many as its item has sentries.
func inst(path string, state int, latches ...int) api.Inst {
	item, _ := tree.Last(path)
	i, _ := model.Find(clinic(), item)
	if latches == nil {
		latches = make([]int, len(i.Entry)+len(i.Exit))
	}
	return api.Inst{Path: path, Item: item, State: state, Latches: latches}
}

func patients() api.Case {
	c := api.Case{ID: 4, Model: "clinic", Clock: 9, Docs: []api.Doc{{Path: "f#1", Refs: []string{"f#1"}}}}
	for _, path := range []string{"p.1", "p.1/a.1", "p.1/e.1", "p.1/e.2", "p.1/s.1", "p.1/s.1/b.1", "p.1/s.1/d.1", "p.1/s.1/v.1", "p.1/s.1/v.1/c.1", "p.1/s.2", "p.1/s.2/b.1", "p.1/s.2/b.2", "p.1/s.2/d.1", "p.1/z.1"} {
		c.Insts = append(c.Insts, inst(path, api.Available))
	}
	return c
}

// with are the patients with other latches, by paths.
func with(latches map[string][]int) api.Case {
	c := patients()
	for k, x := range c.Insts {
		if l, is := latches[x.Path]; is {
			c.Insts[k].Latches = l
		}
	}
	return c
}

func wantLatch(t *testing.T, what string, x *Index, c api.Case, e api.Event, want api.Case, paths ...string) {
	t.Helper()
	got, l := x.Latch(c, e)
	if !tree.Same(got, want) || !slices.Equal(l, paths) {
		t.Errorf("%s: %q\n%+v, want %q\n%+v", what, l, got, paths, want)
	}
}

func TestP21_2Latch(t *testing.T) {
	x := New(clinic())
	for _, y := range []struct {
		e    api.Event
		want map[string][]int
	}{
		{event("p.1/s.1/b.1", api.EvComplete), map[string][]int{"p.1/s.1/v.1/c.1": {1}, "p.1/s.1/d.1": {1, 2}}},
		{event("p.1/s.2/b.7", api.EvComplete), map[string][]int{"p.1/s.2/d.1": {1, 2}}},
		{event("p.1/s.3/b.1", api.EvComplete), nil},
		{event("p.1/s.2/v.1/c.1", api.EvOccur), map[string][]int{"p.1/s.2/d.1": {0, 1}}},
		{event("p.1/s.2", api.EvComplete), map[string][]int{"p.1/a.1": {1, 0}}},
		{event("p.1/z.1", api.EvStart), map[string][]int{"p.1/s.1/b.1": {2, 0, 0}, "p.1/s.2/b.1": {2, 0, 0}, "p.1/s.2/b.2": {2, 0, 0}}},
		{event("p.1/z.1", api.EvComplete), map[string][]int{"p.1/a.1": {2, 0}, "p.1/e.1": {1, 0}, "p.1/e.2": {1, 0}, "p.1/s.1": {1, 1, 0}, "p.1/s.1/b.1": {5, 0, 1}, "p.1/s.1/v.1/c.1": {2}, "p.1/s.2": {1, 1, 0}, "p.1/s.2/b.1": {5, 0, 1}, "p.1/s.2/b.2": {5, 0, 1}}},
		{event("p.2/z.1", api.EvComplete), nil},
		{event("z.1", api.EvComplete), nil},
		{fileEvent("f#3", api.EvCreate), map[string][]int{"p.1": {1}, "p.1/e.1": {0, 1}, "p.1/e.2": {0, 1}, "p.1/s.1": {0, 0, 1}, "p.1/s.2": {0, 0, 1}}},
		{fileEvent("f#3.g#1", api.EvUpdate), map[string][]int{"p.1/a.1": {0, 3}, "p.1/s.1": {0, 2, 0}, "p.1/s.2": {0, 2, 0}}},
		{event("p.1/a.1", api.EvComplete), nil},
		{api.Event{}, nil},
	} {
		var paths []string
		for _, i := range patients().Insts {
			if _, is := y.want[i.Path]; is {
				paths = append(paths, i.Path)
			}
		}
		wantLatch(t, "an event", x, patients(), y.e, with(y.want), paths...)
		// What has occurred before stays, and what occurs again counts.
		wantLatch(t, "again", x, with(y.want), y.e, with(y.want), paths...)
	}
	before, now := with(map[string][]int{"p.1/s.1/d.1": {-8, 1}}), with(map[string][]int{"p.1/s.1/d.1": {-7, 3}, "p.1/s.1/v.1/c.1": {1}})
	wantLatch(t, "before", x, before, event("p.1/s.1/b.1", api.EvComplete), now, "p.1/s.1/d.1", "p.1/s.1/v.1/c.1")
}

// An instance that has ended, or whose latches are not those of an item, is not told of.
func TestP21_2LatchNot(t *testing.T) {
	x, e := New(clinic()), event("p.1/s.2/b.1", api.EvComplete)
	for state := -1; state <= 11; state++ {
		c := patients()
		c.Insts[12].State = state
		if state == api.Completed || state == api.Terminated || state == api.Closed {
			wantLatch(t, "one that has ended", x, c, e, c)
			continue
		}
		want := with(map[string][]int{"p.1/s.2/d.1": {1, 2}})
		want.Insts[12].State = state
		wantLatch(t, "a state", x, c, e, want, "p.1/s.2/d.1")
	}
	for _, latches := range [][]int{nil, {0}, {0, 0, 0}} {
		c := with(map[string][]int{"p.1/s.2/d.1": latches})
		wantLatch(t, "latches", x, c, e, c)
	}
	for _, item := range []string{"none", "", "a", "v"} {
		c := patients()
		c.Insts[12].Item = item
		wantLatch(t, "item "+item, x, c, e, c)
	}
	wantLatch(t, "no case", x, api.Case{}, e, api.Case{})
	// The item is the one that Item says.
	c, want := patients(), patients()
	c.Insts[3].Item, want.Insts[3].Item, want.Insts[3].Latches = "d", "d", []int{1, 2}
	want.Insts[12].Latches = []int{1, 2}
	c.Insts[3].Path, want.Insts[3].Path = "p.1/s.2/e.1", "p.1/s.2/e.1"
	wantLatch(t, "item", x, c, e, want, "p.1/s.2/e.1", "p.1/s.2/d.1")
}

// In a case made by hand the order is that of the list, and two at one path are two.
func TestP21_2Order(t *testing.T) {
	c := patients()
	slices.Reverse(c.Insts)
	c.Insts = append(c.Insts, inst("p.1/s.1/d.1", api.Active))
	want := tree.Copy(c)
	for k, latches := range map[int][]int{5: {1}, 7: {1, 2}, 14: {1, 2}} {
		want.Insts[k].Latches = latches
	}
	wantLatch(t, "reversed", New(clinic()), c, event("p.1/s.1/b.1", api.EvComplete), want, "p.1/s.1/v.1/c.1", "p.1/s.1/d.1", "p.1/s.1/d.1")
}

// Of items of one ID the first one counts, and an on-part with two sources matches nothing.
func TestP21_2MadeByHand(t *testing.T) {
	m := clinic()
	m.Plan.Table[0].ID = "v"
	m.Plan.Kids[0].Entry = []api.Sentry{after(api.OnPart{Item: "v", File: "v", Event: api.EvStart})}
	c := api.Case{Insts: []api.Inst{{Path: "p.1/v.1", Item: "v"}, {Path: "p.1/v.2", Item: "v", Latches: []int{0, 0}}, {Path: "p.1/z.1", Item: "z", Latches: []int{0}}}}
	for _, e := range []api.Event{event("p.1/z.1", api.EvComplete), event("p.1/v.1", api.EvStart), fileEvent("v#1", api.EvStart), fileEvent("f#1", api.EvCreate)} {
		wantLatch(t, "by hand", New(m), c, e, c)
		if l := New(m).For(e); len(l) == 0 {
			t.Errorf("%+v: no hook", e)
		}
	}
	// An on-part that has no bit is matched all the same.
	many := make([]api.OnPart, 70)
	many[69] = on("v", api.EvStart)
	m.Plan.Kids[0].Entry[0].On = many
	wantLatch(t, "many", New(m), c, event("p.1/v.1", api.EvStart), c, "p.1/z.1")
}

func TestP21_2NoIndex(t *testing.T) {
	var none *Index
	for _, x := range []*Index{none, {}, new(Index)} {
		for _, e := range []api.Event{event("p.1/z.1", api.EvComplete), fileEvent("f#1", api.EvCreate), {}} {
			wantLatch(t, "no index", x, patients(), e, patients())
			wantLatch(t, "no index", x, api.Case{}, e, api.Case{})
			if l := x.For(e); len(l) > 0 {
				t.Error(l)
			}
		}
	}
}

// The index is that of the model as it was, whatever becomes of the model and of results.
func TestP21_1Kept(t *testing.T) {
	m := clinic()
	x, e := New(m), event("p.1/z.1", api.EvComplete)
	m.Plan.ID, m.Plan.Kids[0].ID = "q", "y"
	b := &m.Plan.Kids[1].Kids[0]
	b.ID, b.Entry[0].On[0], b.Entry[0].On[2].Item, b.Exit[0] = "x", on("y", api.EvStart), "y", api.Sentry{}
	m.Plan.Kids[1].Kids = m.Plan.Kids[1].Kids[:1]
	for range 3 {
		l := x.For(e)
		if written(l) != untilZ {
			t.Fatal(written(l))
		}
		clear(l[:cap(l)])
		got, paths := x.Latch(patients(), e)
		if want := latch.Latch(clinic(), patients(), []api.Event{e}); !tree.Same(got, want) || len(paths) != 9 {
			t.Fatal(got, paths)
		}
		clear(paths[:cap(paths)])
		clear(got.Insts[:cap(got.Insts)])
	}
}
