package model

import (
	"reflect"
	"slices"
	"strconv"
	"strings"
	"testing"

	"dossier/api"
)

func on(item string, event int) api.OnPart { return api.OnPart{Item: item, Event: event} }

func onFile(path string, event int) api.OnPart { return api.OnPart{File: path, Event: event} }

func after(condition string, on ...api.OnPart) api.Sentry { return api.Sentry{On: on, If: condition} }

func stage(id string, kids ...api.Item) api.Item { return api.Item{ID: id, Kids: kids} }

func task(id string) api.Item { return api.Item{ID: id, Kind: api.ItemHuman} }

func plan(kids ...api.Item) api.Model { return api.Model{ID: "m", Plan: stage("p", kids...)} }

// row are so many tasks, one behind the other.
func row(prefix string, many int) []api.Item {
	var l []api.Item
	for k := range many {
		l = append(l, task(prefix+strconv.Itoa(k)))
	}
	return l
}

// nest is so many stages, one inside the other, around some items.
func nest(many int, inner ...api.Item) []api.Item {
	for k := range many {
		inner = []api.Item{stage("n"+strconv.Itoa(k), inner...)}
	}
	return inner
}

// sample has items of all kinds, with all fields that they may have.
func sample() api.Model {
	t := api.Item{ID: "t", Name: "Write it", Kind: api.ItemHuman,
		Entry: []api.Sentry{after("order.total > 3", on("g", api.EvOccur), onFile("order.total", api.EvUpdate)), after("", on("s", api.EvCreate))},
		Exit:  []api.Sentry{after("count(order) = 0")}, Manual: "true", Required: "order.total < 9", Repeat: "number(t, active) < 2",
		Free: true, Roles: []string{"boss", "clerk"}}
	s := api.Item{ID: "s", Entry: []api.Sentry{after("true")}, Exit: []api.Sentry{after("", on("p", api.EvFault), on("w", api.EvOccur))},
		Manual: "false", Required: "true", Repeat: "true", Auto: true, Roles: []string{"clerk"},
		Kids:  []api.Item{{ID: "g", Kind: api.ItemMilestone, Entry: []api.Sentry{after("", onFile("order", api.EvAddChild))}, Required: "true", Repeat: "true"}, stage("i", task("j"))},
		Table: []api.Item{{ID: "u", Kind: api.ItemProcess}, {ID: "v", Kind: api.ItemCase, Exit: []api.Sentry{after("true")}}}}
	return api.Model{ID: "m", Name: "A model \u00e9", Roles: []string{"clerk", "boss"},
		Files: []api.FileItem{{Name: "order", Kids: []api.FileItem{{Name: "total", Kind: api.KindInt}}}, {Name: "note", Kind: api.KindText, Multi: api.MultiAny}},
		Plan: api.Item{ID: "p", Name: "Plan", Auto: true, Exit: []api.Sentry{after("", on("t", api.EvComplete))}, Kids: []api.Item{t, s,
			{ID: "l", Kind: api.ItemListener, Roles: []string{"boss"}}, {ID: "w", Kind: api.ItemTimer, After: 5}}, Table: []api.Item{{ID: "d", Kind: api.ItemDecision, Required: "true"}}}}
}

func ids(l []api.Item) []string {
	var all []string
	for _, i := range l {
		all = append(all, i.ID)
	}
	return all
}

// alike reports whether two items are the same, nil and empty lists being so.
func alike(a, b api.Item) bool { return reflect.DeepEqual(bare(a), bare(b)) }

// bare has nil in place of all empty lists, in new memory.
func bare(i api.Item) api.Item {
	i.Roles = append([]string(nil), i.Roles...)
	i.Entry, i.Exit = bareSentries(i.Entry), bareSentries(i.Exit)
	i.Kids, i.Table = bareItems(i.Kids), bareItems(i.Table)
	return i
}

func bareItems(l []api.Item) []api.Item {
	var all []api.Item
	for _, i := range l {
		all = append(all, bare(i))
	}
	return all
}

func bareSentries(l []api.Sentry) []api.Sentry {
	var all []api.Sentry
	for _, s := range l {
		all = append(all, api.Sentry{On: append([]api.OnPart(nil), s.On...), If: s.If})
	}
	return all
}

func TestP13_2Items(t *testing.T) {
	m := sample()
	l := Items(m)
	if want := []string{"p", "t", "s", "g", "i", "j", "u", "v", "l", "w", "d"}; !slices.Equal(ids(l), want) {
		t.Errorf("%q", ids(l))
	}
	s := m.Plan.Kids[1]
	for k, want := range []api.Item{m.Plan, m.Plan.Kids[0], s, s.Kids[0], s.Kids[1], s.Kids[1].Kids[0], s.Table[0], s.Table[1], m.Plan.Kids[2], m.Plan.Kids[3], m.Plan.Table[0]} {
		if !alike(l[k], want) {
			t.Errorf("%d: %+v, want %+v", k, l[k], want)
		}
	}
	// Kids with everything below them come ahead of the table, at each level.
	deep := stage("a", stage("b", stage("c"), stage("d")), stage("e"))
	deep.Table = []api.Item{stage("f", stage("g")), stage("h")}
	deep.Kids[0].Table = []api.Item{stage("x", stage("y"))}
	if l := ids(Items(api.Model{Plan: deep})); strings.Join(l, "") != "abcdxyefgh" {
		t.Errorf("%q", l)
	}
	if l := Items(api.Model{}); len(l) != 1 || !alike(l[0], api.Item{}) {
		t.Errorf("%+v", l)
	}
	if l := Items(plan(row("a", 3000)...)); len(l) != 3001 || l[3000].ID != "a2999" {
		t.Error(len(l))
	}
}

func TestP13_2ItemsOfAnything(t *testing.T) {
	// Not only stages have kids, and IDs are there twice, or are none.
	odd := api.Item{ID: "a", Kind: api.ItemTimer, Kids: []api.Item{{ID: "", Kind: -7}, {ID: "a", Kind: 99, Table: []api.Item{{ID: "a b"}}}}}
	if l := ids(Items(api.Model{Plan: odd})); !slices.Equal(l, []string{"a", "", "a", "a b"}) {
		t.Errorf("%q", l)
	}
	if l := Items(api.Model{Plan: nest(1500)[0]}); len(l) != 1500 || l[0].ID != "n1499" || l[1499].ID != "n0" {
		t.Error(len(l))
	}
}

// Flat has the same items, without what is below them.
func TestP13_2Flat(t *testing.T) {
	m := roomy()
	l := Flat(m)
	all := Items(sample())
	if len(l) != len(all) {
		t.Fatalf("%q", ids(l))
	}
	for k, want := range all {
		want.Kids, want.Table = nil, nil
		if !alike(l[k], want) {
			t.Errorf("%d: %+v, want %+v", k, l[k], want)
		}
		spoil(l[k])
		wantRoomy(t, m)
	}
	if l := Flat(api.Model{Plan: nest(60000, task("t"))[0]}); len(l) != 60001 || l[0].ID != "n59999" || l[60000].ID != "t" {
		t.Error(len(l))
	}
	if l := Flat(api.Model{}); len(l) != 1 || !alike(l[0], api.Item{}) {
		t.Errorf("%+v", l)
	}
}

func TestP13_2Find(t *testing.T) {
	m := sample()
	for _, want := range Items(m) {
		if i, is := Find(m, want.ID); !alike(i, want) || !is {
			t.Errorf("Find(%q) = %+v, %t", want.ID, i, is)
		}
	}
	for _, id := range []string{"", "m", "x", "P", "p.t", "order", "clerk", " t", "Write it", "t\x00"} {
		if i, is := Find(m, id); !reflect.DeepEqual(i, api.Item{}) || is {
			t.Errorf("Find(%q) = %+v, %t", id, i, is)
		}
	}
	twice := plan(api.Item{ID: "a", Name: "first", Kids: []api.Item{{ID: "b", Name: "inner"}}, Table: []api.Item{{ID: "c", Name: "table"}}},
		api.Item{ID: "b", Name: "outer"}, api.Item{ID: "c", Name: "late"}, api.Item{ID: "a", Name: "second"}, api.Item{Name: "none"})
	for id, name := range map[string]string{"a": "first", "b": "inner", "c": "table", "": "none"} {
		if i, is := Find(twice, id); i.Name != name || !is {
			t.Errorf("Find(%q) = %+v, %t", id, i, is)
		}
	}
	if i, is := Find(api.Model{}, ""); !alike(i, api.Item{}) || !is {
		t.Error(i, is)
	}
	if i, is := Find(api.Model{}, "p"); !reflect.DeepEqual(i, api.Item{}) || is {
		t.Error(i, is)
	}
}

func TestP13_2Way(t *testing.T) {
	m := sample()
	for id, want := range map[string]string{"p": "", "t": "p", "s": "p", "l": "p", "w": "p", "d": "p", "g": "ps", "i": "ps", "j": "psi", "u": "ps", "v": "ps", "": "", "x": "", "m": ""} {
		if l := Way(m, id); strings.Join(l, "") != want || len(l) != len(want) {
			t.Errorf("Way(%q) = %q, want %q", id, l, want)
		}
	}
	odd := plan(stage("a", stage("b"), stage("a", stage("c"))), stage("d", stage("b", stage("p"))))
	odd.Plan.Table = []api.Item{stage("e", stage("c"), stage("f"))}
	for id, want := range map[string]string{"p": "", "a": "p", "b": "pa", "c": "paa", "d": "p", "e": "p", "f": "pe"} {
		if l := Way(odd, id); strings.Join(l, "") != want {
			t.Errorf("Way(%q) = %q, want %q", id, l, want)
		}
	}
	if l := Way(api.Model{}, ""); len(l) != 0 {
		t.Errorf("%q", l)
	}
}

func TestP13_2Scope(t *testing.T) {
	m := sample()
	for _, x := range []struct{ a, b, want string }{
		{"t", "s", "p"}, {"t", "t", "p"}, {"p", "t", ""}, {"t", "p", ""}, {"p", "p", ""}, {"j", "j", "i"}, {"j", "i", "s"}, {"i", "j", "s"}, {"j", "u", "s"}, {"v", "g", "s"},
		{"j", "t", "p"}, {"d", "j", "p"}, {"s", "j", "p"}, {"j", "s", "p"}, {"u", "v", "s"}, {"w", "d", "p"}, {"j", "x", ""}, {"x", "j", ""}, {"", "", ""}, {"j", "", ""},
	} {
		if s := Scope(m, x.a, x.b); s != x.want {
			t.Errorf("Scope(%q, %q) = %q, want %q", x.a, x.b, s, x.want)
		}
	}
	// Ways that go apart and have equal IDs further on.
	apart := plan(stage("a", stage("z", task("b"))), stage("c", stage("z", task("d"))))
	if s := Scope(apart, "b", "d"); s != "p" {
		t.Error(s)
	}
}

func TestP13_2Deep(t *testing.T) {
	m := api.Model{ID: "m", Plan: nest(60000, task("t"))[0]}
	if l := Way(m, "t"); len(l) != 60000 || l[0] != "n59999" || l[59999] != "n0" {
		t.Error(len(l))
	}
	if l := Way(m, "x"); len(l) != 0 {
		t.Error(len(l))
	}
	if s := Scope(m, "t", "n20"); s != "n21" {
		t.Error(s)
	}
	deep := 0
	i, is := Find(m, "n30000")
	for ; len(i.Kids) > 0; i = i.Kids[0] {
		deep++
	}
	if deep != 30001 || !is {
		t.Error(deep, is)
	}
	if _, is := Find(m, "x"); is {
		t.Error("found")
	}
}

// spoil changes all that lies in the lists of an item, with their spare capacity.
func spoil(i api.Item) {
	for _, l := range [][]api.Sentry{i.Entry[:cap(i.Entry)], i.Exit[:cap(i.Exit)]} {
		for k, s := range l {
			for n := range s.On[:cap(s.On)] {
				s.On[:cap(s.On)][n] = on("spoilt", 1)
			}
			l[k] = after("spoilt")
		}
	}
	for k := range i.Roles[:cap(i.Roles)] {
		i.Roles[:cap(i.Roles)][k] = "spoilt"
	}
	for _, l := range [][]api.Item{i.Kids[:cap(i.Kids)], i.Table[:cap(i.Table)]} {
		for k := range l {
			spoil(l[k])
			l[k] = task("spoilt")
		}
	}
}

// roomy has spare capacity, which holds something.
func roomy() api.Model {
	m := sample()
	p := &m.Plan
	p.Kids = append(p.Kids, task("spare"))[:4]
	p.Table = append(p.Table, task("spare"))[:1]
	p.Exit = append(p.Exit, after("spare"))[:1]
	p.Exit[0].On = append(p.Exit[0].On, on("spare", 1))[:1]
	p.Kids[0].Roles = append(p.Kids[0].Roles, "spare")[:2]
	return m
}

func wantRoomy(t *testing.T, m api.Model) {
	t.Helper()
	p := m.Plan
	if !reflect.DeepEqual(m, sample()) || p.Kids[:5][4].ID != "spare" || p.Table[:2][1].ID != "spare" || p.Exit[:2][1].If != "spare" || p.Exit[0].On[:2][1].Item != "spare" || p.Kids[0].Roles[:3][2] != "spare" {
		t.Fatal("an argument was modified")
	}
}

func TestP13_2Memory(t *testing.T) {
	m := roomy()
	l := Items(m)
	for k, want := range Items(sample()) {
		if !alike(l[k], want) {
			t.Fatalf("item %d shares memory with another one", k)
		}
		spoil(l[k])
		wantRoomy(t, m)
		i, _ := Find(m, want.ID)
		again, _ := Find(m, want.ID)
		spoil(i)
		if !alike(again, want) {
			t.Fatalf("Find(%q) shares memory with another result", want.ID)
		}
		wantRoomy(t, m)
		way := Way(m, want.ID)
		for k := range way[:cap(way)] {
			way[:cap(way)][k] = "spoilt"
		}
		if slices.Contains(Way(m, want.ID), "spoilt") {
			t.Fatalf("Way(%q) shares memory with another result", want.ID)
		}
	}
	Check(m)
	Scope(m, "j", "u")
	wantRoomy(t, m)
	if _, is := Find(m, "spare"); is {
		t.Error("the spare capacity counts")
	}
}
