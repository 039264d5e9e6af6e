package engine_test

import (
	"math"
	"slices"
	"strings"
	"testing"

	"dossier/api"
	"dossier/engine"
	"dossier/model"
	"dossier/tree"
)

func TestP29_2Plan(t *testing.T) {
	c := cased("p.1=4 p.1/a.1=4 p.1/s.1=4 p.1/s.1/t.1=2")
	c.Clock = 50
	c = wantInsts(t, c, plan("boss", "p.1/s.1", "x"), "p.1=4 p.1/a.1=4 p.1/s.1=4 p.1/s.1/t.1=2 p.1/s.1/x.1=4", 2, 1)
	c = wantInsts(t, c, plan("boss", "p.1/s.1", "x"), "p.1=4 p.1/a.1=4 p.1/s.1=4 p.1/s.1/t.1=2 p.1/s.1/x.1=4 p.1/s.1/x.2=4", 2, 1)
	c = wantInsts(t, c, plan("", "p.1/s.1", "y"), "p.1=4 p.1/a.1=4 p.1/s.1=4 p.1/s.1/t.1=2 p.1/s.1/x.1=4 p.1/s.1/x.2=4 p.1/s.1/y.1=1@51", 1, 0)
	c = wantInsts(t, c, do("boss", "p.1/s.1/x.1", "complete"), "p.1=4 p.1/a.1=4 p.1/s.1=4 p.1/s.1/t.1=2 p.1/s.1/x.1=7 p.1/s.1/x.2=4 p.1/s.1/x.3=4 p.1/s.1/y.1=1@51", 2, 1)
	wantDo(t, office(), c, tick("", 1), at(c, 51), "p.1=4 p.1/a.1=4 p.1/s.1=4 p.1/s.1/t.1=2 p.1/s.1/x.1=7 p.1/s.1/x.2=4 p.1/s.1/x.3=4 p.1/s.1/y.1=7@51", 1, 0)
	// Something may wait for an instance to be created.
	m := office()
	m.Plan.Kids[4].Entry = on("x create")
	wantDo(t, m, cased("p.1=4 p.1/m.1=1:0 p.1/s.1=4 p.1/s.1/t.1=2"), plan("boss", "p.1/s.1", "x"), cased(""), "p.1=4 p.1/m.1=7:0 p.1/s.1=4 p.1/s.1/t.1=2 p.1/s.1/x.1=4", 2, 2)
}

// at is a case at another time.
func at(c api.Case, clock int) api.Case {
	c = tree.Copy(c)
	c.Clock = clock
	return c
}

func TestP29_2File(t *testing.T) {
	none := api.Value{}
	c := cased("p.1=4 p.1/a.1=4 p.1/m.1=1:0")
	created := tree.Copy(c)
	created.Docs = append(created.Docs, api.Doc{Path: "order#3"})
	created = wantDo(t, office(), c, file("", api.EvCreate, "", "order", none), created, "p.1=4 p.1/a.1=4 p.1/m.1=1:1", 1, 0)
	updated := tree.Copy(created)
	updated.Docs[1].Value = number(7)
	updated = wantDo(t, office(), created, file("boss", api.EvUpdate, "order#1.total#1", "", number(7)), updated, "p.1=4 p.1/a.1=4 p.1/m.1=7:0", 2, 1)
	deleted := tree.Copy(updated)
	deleted.Docs = slices.Delete(deleted.Docs, 2, 3)
	deleted.Docs[0].Refs = nil
	deleted = wantDo(t, office(), updated, file("clerk", api.EvDelete, "order#2", "", none), deleted, spelt(updated), 1, 0)
	replaced := tree.Copy(deleted)
	replaced.Docs = slices.Delete(replaced.Docs, 1, 2)
	replaced = wantDo(t, office(), deleted, file("", api.EvReplace, "order#1", "", none), replaced, spelt(updated), 1, 0)
	added := tree.Copy(replaced)
	added.Docs = slices.Insert(added.Docs, 1, api.Doc{Path: "order#1.total#1", Value: number(-1)})
	added = wantDo(t, office(), replaced, file("", api.EvAddChild, "order#1", "total", number(-1)), added, spelt(updated), 1, 0)
	referred := tree.Copy(added)
	referred.Docs[0].Refs = []string{"order#3"}
	wantDo(t, office(), added, file("", api.EvAddRef, "order#1", "order#3", none), referred, spelt(updated), 1, 0)
	wantDo(t, office(), referred, file("", api.EvCutRef, "order#1", "order#3", none), added, spelt(updated), 1, 0)
	// A condition may hold then.
	m := office()
	m.Plan.Kids[4].Entry = []api.Sentry{{If: "order.total > 10"}}
	after := tree.Copy(added)
	after.Docs[1].Value = number(11)
	added.Insts = cased("p.1=4 p.1/m.1=1:0").Insts
	wantDo(t, m, added, file("", api.EvUpdate, "order#1.total#1", "", number(11)), after, "p.1=7 p.1/m.1=7:0", 2, 2)
}

func TestP29_2Tick(t *testing.T) {
	c := cased("p.1=4 p.1/a.1=4 p.1/o.1=1@3 p.1/o.2=1@5 p.1/o.3=6<1@1 p.1/o.4=8@1 p.1/s.1=4 p.1/s.1/t.1=2 p.1/s.1/v.1=1:0 p.1/s.1/w.1=1@5 p.1/s.2=6<4 p.1/s.2/w.1=6<11@2 p.1/s.3=5 p.1/s.3/w.1=1@2")
	for n := range 3 {
		wantDo(t, office(), c, tick("", n), at(c, n), spelt(c), 1, 0)
	}
	first := strings.Replace(spelt(c), "o.1=1", "o.1=7", 1)
	wantDo(t, office(), c, tick("", 3), at(c, 3), first, 1, 0)
	c = wantDo(t, office(), c, tick("", 4), at(c, 4), first, 1, 0)
	c = wantDo(t, office(), c, tick("boss", 1), at(c, 5), "p.1=4 p.1/a.1=4 p.1/o.1=7@3 p.1/o.2=7@5 p.1/o.3=6<1@1 p.1/o.4=8@1 p.1/s.1=4 p.1/s.1/t.1=2 p.1/s.1/v.1=4:0 p.1/s.1/w.1=7@5 p.1/s.2=6<4 p.1/s.2/w.1=6<11@2 p.1/s.3=5 p.1/s.3/w.1=1@2", 2, 1)
	// What was suspended occurs with the next tick, also without more time.
	c = wantInsts(t, c, do("clerk", "p.1/s.2", "resume"), strings.Replace(strings.Replace(spelt(c), "s.2=6<4", "s.2=4", 1), "s.2/w.1=6<11", "s.2/w.1=1", 1), 1, 0)
	c = wantDo(t, office(), c, tick("", 0), at(c, 5), strings.Replace(spelt(c), "s.2/w.1=1", "s.2/w.1=7", 1), 1, 0)
	wantDo(t, office(), c, tick("", 1<<40), at(c, 5+1<<40), spelt(c), 1, 0)
	wantDo(t, office(), at(c, 1<<61-1<<40), tick("", 1<<40), at(c, 1<<61), spelt(c), 1, 0)
	wantDo(t, office(), at(c, 1<<61), tick("", 0), at(c, 1<<61), spelt(c), 1, 0)
	// A case that has ended has a clock, too.
	for state := 5; state < 10; state++ {
		c := cased("p.1=4 p.1/a.1=8 p.1/o.1=8@3")
		c.Insts[0].State = state
		wantDo(t, office(), c, tick("", 9), at(c, 9), spelt(c), 1, 0)
	}
	wantDo(t, office(), api.Case{Clock: math.MinInt}, tick("", 9), api.Case{Clock: math.MinInt + 9}, "", 1, 0)
}

// All timers that are due occur at once, ahead of what follows from any of them.
func TestP29_2TickAtOnce(t *testing.T) {
	both := []api.Sentry{{On: append(on("w occur")[0].On, on("o occur")[0].On...)}}
	m := api.Model{ID: "m", Plan: api.Item{ID: "p", Kids: []api.Item{
		{ID: "s", Kind: api.ItemStage, Exit: on("o occur"), Kids: []api.Item{{ID: "w", Kind: api.ItemTimer, After: 5}, {ID: "t", Kind: api.ItemHuman}}},
		{ID: "o", Kind: api.ItemTimer, After: 5},
		{ID: "e", Kind: api.ItemMilestone, Entry: both},
		{ID: "h", Kind: api.ItemHuman},
	}}}
	if err := model.Check(m); err != api.OK {
		t.Fatal(err)
	}
	c := cased("p.1=4 p.1/e.1=1:0 p.1/h.1=4 p.1/o.1=1@5 p.1/s.1=4:0 p.1/s.1/t.1=4 p.1/s.1/w.1=1@5")
	wantDo(t, m, c, tick("", 5), at(c, 5), "p.1=4 p.1/e.1=7:0 p.1/h.1=4 p.1/o.1=7@5 p.1/s.1=8:1 p.1/s.1/t.1=8 p.1/s.1/w.1=7@5", 2, 3)
}

// Only timers occur with time, and only where their parent is Active.
func TestP29_2TickOthers(t *testing.T) {
	c := cased("p.1=4 p.1/b.1=2@1 p.1/l.1=1@1 p.1/m.1=1:0@1 p.1/s.1=2@1 p.1/z.1=1@1~none p.2/o.1=1@1 o.1=1@1 /o.1=1@1")
	wantDo(t, office(), c, tick("", 9), at(c, 9), spelt(c), 1, 0)
	for _, state := range []int{math.MinInt, -1, 0, 2, 3, 4, 5, 6, 7, 8, 9, 10, 11, math.MaxInt} {
		c := cased("p.1=4 p.1/b.1=2 p.1/o.1=1@1")
		c.Insts[2].State = state
		wantDo(t, office(), c, tick("", 9), at(c, 9), spelt(c), 1, 0)
		c.Insts[2].State, c.Insts[0].State = api.Available, state
		after := spelt(c)
		if state == api.Active {
			after = strings.Replace(after, "o.1=1", "o.1=7", 1)
		}
		wantDo(t, office(), c, tick("", 9), at(c, 9), after, 1, 0)
	}
	for _, due := range []int{math.MinInt, -5, -1, 0, 1, 9} {
		c := cased("p.1=4 p.1/b.1=2 p.1/o.1=1")
		c.Insts[2].Due = due
		wantDo(t, office(), c, tick("", 9), at(c, 9), strings.Replace(spelt(c), "o.1=1", "o.1=7", 1), 1, 0)
	}
	for _, due := range []int{10, 1 << 62, math.MaxInt} {
		c := cased("p.1=4 p.1/b.1=2 p.1/o.1=1")
		c.Insts[2].Due = due
		wantDo(t, office(), c, tick("", 9), at(c, 9), spelt(c), 1, 0)
	}
}

// Cases made by hand: at each turn, what is there by then counts.
func TestP29_2TickMadeByHand(t *testing.T) {
	c := cased("p.1=4 p.1/a.1=4 p.1/o.1=1@1 p.1/o.1/s.1=4 p.1/o.1/s.1/w.1=1@1")
	wantDo(t, office(), c, tick("", 1), at(c, 1), "p.1=4 p.1/a.1=4 p.1/o.1=7@1 p.1/o.1/s.1=8 p.1/o.1/s.1/w.1=8@1", 1, 0)
	c = cased("p.1=4 p.1/a.1=4 p.1/o.1/s.1=4 p.1/o.1/s.1/w.1=1@1 p.1/o.1=1@1")
	wantDo(t, office(), c, tick("", 1), at(c, 1), "p.1=4 p.1/a.1=4 p.1/o.1/s.1=8 p.1/o.1/s.1/w.1=7@1 p.1/o.1=7@1", 1, 0)
	// Of two instances at one path the first one counts.
	c = cased("p.1=4 p.1/a.1=4 p.1/o.1=1@1 p.1/o.1=1@1")
	wantDo(t, office(), c, tick("", 1), at(c, 1), "p.1=4 p.1/a.1=4 p.1/o.1=7@1 p.1/o.1=1@1", 1, 0)
	c = cased("p.1=4 p.1/a.1=4 p.1/o.1=6@1 p.1/o.1=1@1")
	wantDo(t, office(), c, tick("", 1), at(c, 1), spelt(c), 1, 0)
	// Nothing is around what is at the top, even if an instance has no path.
	c = cased("=4~a o.1=1@1 /o.1=1@1")
	wantDo(t, office(), c, tick("", 1), at(c, 1), spelt(c), 1, 0)
}

// Cases made by hand: the path tells whether an instance is that of the plan, and Item what it is of.
func TestP29_2DoMadeByHand(t *testing.T) {
	c := cased("p.1=4 p.1/p.1=4 p.1/p.1/a.1=4 p.1/q.1=4~a s.1=4 t.1=4")
	wantRefused(t, c, do("", "p.1/p.1", "close"), api.ErrState)
	wantRefused(t, c, do("", "p.1/p.1", "complete"), api.ErrNeeded)
	wantInsts(t, c, do("", "p.1/p.1", "fault"), strings.Replace(spelt(c), "p.1/p.1=4", "p.1/p.1=5", 1), 1, 0)
	wantInsts(t, c, do("", "p.1/q.1", "fault"), strings.Replace(spelt(c), "q.1=4", "q.1=5", 1), 1, 0)
	wantInsts(t, c, do("clerk", "s.1", "fault"), strings.Replace(spelt(c), "s.1=4", "s.1=5", 1), 1, 0)
	wantRefused(t, c, do("clerk", "s.1", "disable"), api.ErrState)
	wantRefused(t, c, do("", "t.1", "fault"), api.ErrState)
	c = cased("p.1=4 p.1/a.1=5 p.1/a.1=4")
	wantRefused(t, c, do("", "p.1/a.1", "fault"), api.ErrState)
	wantInsts(t, c, do("", "p.1/a.1", "reactivate"), "p.1=4 p.1/a.1=4 p.1/a.1=4", 1, 0)
}

// Nobody looks at the ID of the case, at fields that a verb does not have, or at an order without numbers.
func TestP29_2Unread(t *testing.T) {
	c := cased(begun)
	c.Model = "another"
	for _, k := range []api.Command{do("", "p.1/a.1", "fault"), tick("", 1), file("", api.EvCreate, "", "order", api.Value{}), plan("boss", "p.1/s.1", "x")} {
		want, gauge, wantErr := engine.Do(office(), c, k, nil, 20)
		k.Case, k.Text = -9, "\xff"
		if k.Verb == api.VerbDo {
			k.Name, k.Value, k.Int = "x", api.Value{Kind: 99}, -1
		}
		if k.Verb != api.VerbTick {
			k.Int = math.MinInt
		}
		got, g, err := engine.Do(office(), c, k, []int{}, 20)
		if err != wantErr || g != gauge || !tree.Same(got, want) {
			t.Errorf("%+v: error %d, %s, want error %d, %s", k, err, spelt(got), wantErr, spelt(want))
		}
	}
}

// The document's examples: of the layer, and of the whole.
func TestP29_2Examples(t *testing.T) {
	wantRefused(t, cased("p.1=4 p.1/a.1=1"), do("", "p.1/a.1", "complete"), api.ErrState)
	a, b := api.Item{ID: "a", Kind: api.ItemHuman}, api.Item{ID: "b", Kind: api.ItemHuman, Entry: on("a complete")}
	m := api.Model{ID: "office", Plan: api.Item{ID: "p", Kids: []api.Item{a}}}
	c, _, err := engine.New(m, 3, nil, 2)
	if err != api.OK || spelt(c) != "p.1=4 p.1/a.1=4" {
		t.Error("a task without Entry:", err, spelt(c))
	}
	wantDo(t, m, c, do("", "p.1/a.1", "complete"), c, "p.1=7 p.1/a.1=7", 2, 1)
	m.Plan.Kids = []api.Item{a, b}
	c, _, err = engine.New(m, 3, nil, 3)
	if err != api.OK || spelt(c) != "p.1=4 p.1/a.1=4 p.1/b.1=1:0" {
		t.Error("a task that waits:", err, spelt(c))
	}
	wantDo(t, m, c, do("", "p.1/a.1", "complete"), c, "p.1=4 p.1/a.1=7 p.1/b.1=4:0", 2, 1)
	m.Plan.Kids[1].Exit = on("a complete")
	wantDo(t, m, cased("p.1=4 p.1/a.1=4 p.1/b.1=1:0,0"), do("", "p.1/a.1", "complete"), cased(""), "p.1=7 p.1/a.1=7 p.1/b.1=8:1,1", 2, 2)
}
