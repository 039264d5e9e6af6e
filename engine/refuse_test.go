package engine_test

import (
	"math"
	"slices"
	"strings"
	"testing"

	"dossier/api"
	"dossier/engine"
	"dossier/model"
	"dossier/states"
	"dossier/tree"
)

func TestP29_2DoNone(t *testing.T) {
	c := cased(begun + " p.1/s.1/none.1=4 p.1/z.1=4~none p.1/z.2=4~office")
	for _, path := range []string{"", "p", "p.2", "p.1/", "/p.1", "a.1", "p.1/a", "p.1/a.2", "p.1/a.1/", "p.1/s.1/t.1", "p.1/s.1/none.1", "p.1/z.1", "p.1/z.2", "\xff"} {
		for _, name := range []string{"complete", "start", "none", "create"} {
			for _, role := range []string{"", "boss", "nobody"} { // ahead of the role
				wantRefused(t, c, do(role, path, name), api.ErrNone)
				wantRefused(t, api.Case{}, do(role, path, name), api.ErrNone)
			}
		}
	}
}

func TestP29_2DoRoles(t *testing.T) {
	c := cased(begun)
	wantRoles(t, c, do("", "p.1", "suspend"), "", "boss", "clerk")
	wantRoles(t, c, do("", "p.1/a.1", "complete"), "", "boss", "clerk")
	wantRoles(t, c, do("", "p.1/b.1", "disable"), "boss", "clerk")
	wantRoles(t, c, do("", "p.1/l.1", "occur"), "boss")
	wantRoles(t, c, do("", "p.1/s.1", "manualStart"), "clerk")
	wantRoles(t, c, do("", "p.1/m.1", "terminate"), "", "boss", "clerk")
	// The role comes ahead of what cannot be.
	for _, name := range []string{"enable", "occur", "complete", "close", "none"} {
		wantRefused(t, c, do("boss", "p.1/s.1", name), api.ErrRole)
		wantRefused(t, c, do("", "p.1/s.1", name), api.ErrRole)
		wantRefused(t, c, do("nobody", "p.1/a.1", name), api.ErrRole)
		wantRefused(t, cased("p.1/s.1=4"), do("", "p.1/s.1", name), api.ErrRole)
		wantRefused(t, c, do("clerk", "p.1/s.1", name), api.ErrState)
	}
	// That of the item counts, not that of what is around it.
	c = cased("p.1=4 p.1/s.1=4 p.1/s.1/t.1=2 p.1/s.1/x.1=4")
	wantRoles(t, c, do("", "p.1/s.1/t.1", "disable"), "", "boss", "clerk")
	wantRoles(t, c, do("", "p.1/s.1/x.1", "suspend"), "boss")
}

// Every item in every state, with every event.
func TestP29_2DoStates(t *testing.T) {
	m, met := office(), map[api.Errno]int{}
	for _, path := range []string{"p.1", "p.1/a.1", "p.1/b.1", "p.1/l.1", "p.1/m.1", "p.1/o.1", "p.1/s.1", "p.1/s.1/t.1", "p.1/s.1/w.1"} {
		for state := -1; state <= 10; state++ {
			for _, before := range []int{0, 1, 4, 11, 14} {
				c := cased("p.1=4 p.1/s.1=4")
				item, _ := tree.Last(path)
				c = tree.Put(c, api.Inst{Path: path, Item: item, State: state, Before: before})
				i, _ := model.Find(m, item)
				k := do(append(i.Roles, "")[0], path, "")
				for event := -1; event <= 28; event++ {
					k.Event = event
					_, can := states.Next(i.Kind, path == "p.1", state, before, event)
					met[wantState(t, c, k, can && slices.Contains(strings.Fields(asked(i.Kind, path == "p.1")), model.EventName(event)))]++
				}
			}
		}
	}
	if met[api.OK] < 100 || met[api.ErrState] < 1000 {
		t.Error("one-sided:", met)
	}
}

// wantState holds whether an event can be; the stage s cannot complete where it stands in the way.
func wantState(t *testing.T, c api.Case, k api.Command, can bool) api.Errno {
	t.Helper()
	if !can {
		wantRefused(t, c, k, api.ErrState)
		return api.ErrState
	}
	got, _, err := engine.Do(office(), c, k, nil, 20)
	if k.Path == "p.1" && k.Event == api.EvComplete {
		wantRefused(t, c, k, api.ErrNeeded)
		return err
	}
	if err != api.OK || tree.Same(got, c) {
		t.Errorf("%+v in %s: error %d, %s", k, spelt(c), err, spelt(got))
	}
	return err
}

// Nothing happens in what is not Active, but to the plan itself.
func TestP29_2DoParent(t *testing.T) {
	for _, state := range []int{math.MinInt, -4, 0, 1, 2, 3, 5, 6, 7, 8, 9, 10, 14, math.MaxInt} {
		c := cased("p.1=4 p.1/s.1=4 p.1/s.1/t.1=2 p.1/s.1/w.1=6<1@5")
		c.Insts[1].State = state
		wantRefused(t, c, do("", "p.1/s.1/t.1", "manualStart"), api.ErrState)
		wantRefused(t, c, do("", "p.1/s.1/w.1", "terminate"), api.ErrState)
		wantRefused(t, c, do("", "p.1/s.1/w.1", "resume"), api.ErrState)
		c.Insts[1].State, c.Insts[0].State = api.Active, state
		wantRefused(t, c, do("clerk", "p.1/s.1", "suspend"), api.ErrState)
		wantRefused(t, c, do("clerk", "p.1/s.1", "complete"), api.ErrState) // ahead of what is needed
		// Further out it makes no difference.
		wantInsts(t, c, do("", "p.1/s.1/t.1", "disable"), strings.Replace(spelt(c), "t.1=2", "t.1=3", 1), 1, 0)
	}
	wantRefused(t, cased("p.1/a.1=4"), do("", "p.1/a.1", "complete"), api.ErrState)
	wantRefused(t, cased("p.1=4 p.1/s.1/t.1=4"), do("", "p.1/s.1/t.1", "complete"), api.ErrState)
	wantInsts(t, cased("p.1=6<4 p.1/a.1=6<14"), do("", "p.1", "resume"), "p.1=4 p.1/a.1=4", 1, 0)
}

func TestP29_2DoNeeded(t *testing.T) {
	for _, insts := range []string{
		"p.1/s.1/t.1=1", "p.1/s.1/t.1=2", "p.1/s.1/t.1=4", "p.1/s.1/t.1=6<4", // required
		"p.1/s.1/t.1=7 p.1/s.1/v.1=4:0", "p.1/s.1/x.1=4",
	} {
		wantRefused(t, cased("p.1=4 p.1/s.1=4 "+insts), do("clerk", "p.1/s.1", "complete"), api.ErrNeeded)
	}
	for insts, after := range map[string]string{
		"": "", "p.1/s.1/t.1=3": "p.1/s.1/t.1=8", "p.1/s.1/t.1=5": "p.1/s.1/t.1=8", "p.1/s.1/t.1=7": "p.1/s.1/t.1=7", "p.1/s.1/t.1=8": "p.1/s.1/t.1=8",
		"p.1/s.1/v.1=1:0": "p.1/s.1/v.1=8:0", "p.1/s.1/v.1=2:0": "p.1/s.1/v.1=8:0", "p.1/s.1/v.1=6<4:0": "p.1/s.1/v.1=8:0", "p.1/s.1/w.1=1@9": "p.1/s.1/w.1=8@9",
	} {
		wantInsts(t, cased("p.1=4 p.1/a.1=4 p.1/s.1=4 "+insts), do("clerk", "p.1/s.1", "complete"), "p.1=4 p.1/a.1=4 p.1/s.1=7 "+after, 1, 0)
	}
	// The plan is a stage; to a task, and to another event, it does not matter what there is below.
	wantRefused(t, cased("p.1=4 p.1/a.1=4"), do("", "p.1", "complete"), api.ErrNeeded)
	wantInsts(t, cased("p.1=4 p.1/m.1=1:0 p.1/s.1=2"), do("", "p.1", "complete"), "p.1=7 p.1/m.1=8:0 p.1/s.1=8", 1, 0)
	wantInsts(t, cased("p.1=4 p.1/a.1=4 p.1/s.1=4 p.1/s.1/t.1=4"), do("clerk", "p.1/s.1", "terminate"), "p.1=4 p.1/a.1=4 p.1/s.1=8 p.1/s.1/t.1=8", 1, 0)
	wantInsts(t, cased("p.1=4 p.1/a.1=4 p.1/s.1=4 p.1/s.1/t.1=4"), do("clerk", "p.1/s.1", "fault"), "p.1=4 p.1/a.1=4 p.1/s.1=5 p.1/s.1/t.1=4", 1, 0)
	wantInsts(t, cased("p.1=4 p.1/b.1=4 p.1/b.1/a.1=4 p.1/s.1=2"), do("boss", "p.1/b.1", "complete"), "p.1=4 p.1/b.1=7 p.1/b.1/a.1=8 p.1/s.1=2", 1, 0)
	// It comes ahead of the limit.
	wantError(t, office(), cased("p.1=4 p.1/a.1=4"), do("", "p.1", "complete"), api.ErrNeeded, 0, 1)
}

func TestP29_2DoBudget(t *testing.T) {
	few := []int{math.MinInt, -1, 0, 1, 2}
	c := cased("p.1=4 p.1/a.1=4 p.1/s.1=2")
	for _, k := range []api.Command{do("clerk", "p.1/s.1", "manualStart"), do("", "p.1/a.1", "complete"), do("", "p.1/a.1", "suspend"), do("", "p.1", "terminate")} {
		wantError(t, office(), c, k, api.ErrBudget, few...)
	}
	wantError(t, office(), c, do("clerk", "p.1/s.1", "manualStart"), api.ErrBudget, 3, 4, 5)
	wantError(t, office(), c, do("", "p.1/a.1", "complete"), api.ErrBudget, 3)
	wantError(t, office(), c, do("boss", "p.1/s.1", "manualStart"), api.ErrRole, few...)
	wantError(t, office(), c, do("clerk", "p.1/s.1", "reenable"), api.ErrState, few...)
	wantInsts(t, c, do("", "p.1/a.1", "suspend"), "p.1=4 p.1/a.1=6<4 p.1/s.1=2", 1, 0)
	// What follows by itself is in the same limit, and nothing of the command remains.
	m := office()
	m.Plan.Kids[4].Repeat, m.Plan.Kids[4].Entry = "true", append(on("a suspend"), api.Sentry{If: "number(a, suspended) > 0"})
	wantError(t, m, cased("p.1=4 p.1/a.1=4 p.1/m.1=1:0,0"), do("", "p.1/a.1", "suspend"), api.ErrBudget, 0, 3, 4, 10, api.MaxInst)
}

func TestP29_2PlanErrors(t *testing.T) {
	c := cased("p.1=4 p.1/a.1=4 p.1/b.1=2 p.1/s.1=4 p.1/s.1/t.1=4 p.1/s.2=5 p.1/s.3=6<4 p.1/z.1=4~none")
	for _, path := range []string{"", "p.2", "p.1/", "p.1/s", "p.1/s.4", "p.1/a.1", "p.1/s.1/t.1", "p.1/z.1", "p.1", "\xff"} {
		for _, role := range []string{"", "boss", "clerk", "nobody"} { // ahead of the role
			wantRefused(t, c, plan(role, path, "x"), api.ErrNone)
			wantRefused(t, c, plan(role, path, "y"), api.ErrNone)
			wantRefused(t, api.Case{}, plan(role, path, "x"), api.ErrNone)
		}
	}
	for _, name := range []string{"", "t", "w", "s", "p", "x.1", "none", "X"} {
		wantRefused(t, c, plan("boss", "p.1/s.1", name), api.ErrNone)
		wantRefused(t, c, plan("boss", "p.1/s.2", name), api.ErrNone)
	}
	for _, path := range []string{"p.1/s.2", "p.1/s.3"} {
		for _, role := range []string{"", "boss", "clerk", "nobody"} { // ahead of the role, too
			wantRefused(t, c, plan(role, path, "x"), api.ErrState)
			wantRefused(t, c, plan(role, path, "y"), api.ErrState)
		}
	}
	wantRoles(t, c, plan("", "p.1/s.1", "x"), "boss")
	wantRoles(t, c, plan("", "p.1/s.1", "y"), "", "boss", "clerk")
	wantError(t, office(), c, plan("boss", "p.1/s.1", "x"), api.ErrBudget, math.MinInt, -1, 0, 7, 8)
	wantError(t, office(), c, plan("clerk", "p.1/s.1", "x"), api.ErrRole, math.MinInt, -1, 0, 7, 8)
	wantError(t, office(), c, plan("nobody", "p.1/s.1", "y"), api.ErrRole, math.MinInt, -1, 0, 7, 8)
	wantError(t, office(), c, plan("", "p.1/s.2", "y"), api.ErrState, math.MinInt, -1, 0, 7, 8)
}

func TestP29_2FileErrors(t *testing.T) {
	c := cased("p.1=4 p.1/m.1=1:0 p.1/s.1=2")
	good, none := file("", api.EvCreate, "", "order", api.Value{}), api.Value{}
	wantRoles(t, c, good, "", "boss", "clerk")
	for _, x := range []struct {
		k    api.Command
		want api.Errno
	}{
		{file("", api.EvCreate, "order#1", "order", none), api.ErrArg},
		{file("", api.EvUpdate, "order#1", "total", none), api.ErrArg},
		{file("", api.EvComplete, "order#1", "", none), api.ErrArg},
		{file("", 0, "", "", none), api.ErrArg},
		{file("", api.EvCreate, "", "total", none), api.ErrNone},
		{file("", api.EvUpdate, "order#3", "", none), api.ErrNone},
		{file("", api.EvUpdate, "order#1.total#1", "", api.Value{Kind: api.KindBool}), api.ErrKind},
		{file("", api.EvUpdate, "order#1.total#1", "", api.Value{Kind: api.KindInt, Text: "5"}), api.ErrKind},
		{file("", api.EvAddChild, "order#1", "total", none), api.ErrMulti},
		{file("", api.EvDelete, "order#1.total#1", "", none), api.ErrMulti},
		{file("", api.EvAddRef, "order#1", "order#2", none), api.ErrTwice},
		{file("", api.EvAddRef, "order#1", "order#1.total#1", none), api.ErrKind},
		{file("", api.EvCutRef, "order#2", "order#1", none), api.ErrState},
	} {
		wantRefused(t, c, x.k, x.want)
		for _, state := range []int{math.MinInt, 0, 1, 2, 3, 5, 6, 7, 8, 9, 10, math.MaxInt} {
			ended := tree.Copy(c)
			ended.Insts[0].State = state
			wantRefused(t, ended, x.k, api.ErrState) // ahead of what is wrong with the case file
			x.k.Role = "nobody"
			wantRefused(t, ended, x.k, api.ErrRole) // ahead of both
			x.k.Role = ""
		}
		x.k.Role = "nobody"
		wantRefused(t, c, x.k, api.ErrRole)
	}
	wantRefused(t, cased("p.1=9"), good, api.ErrState)
	// The first instance at the top counts, also in a case made by hand.
	for insts, want := range map[string]api.Errno{"": api.ErrState, "p.1/a.1=4": api.ErrState, "p.1=5 q.1=4": api.ErrState, "p.1=5 p.1=4": api.ErrState, "p.1/a.1=5 q.1=4 p.1=5": api.OK, "=4": api.OK, "/q=4": api.OK, "=5 p.1=4": api.ErrState} {
		if _, _, err := engine.Do(office(), cased(insts), good, nil, 9); err != want {
			t.Errorf("%q: error %d, want error %d", insts, err, want)
		}
	}
	c.Docs[0], c.Docs[2] = c.Docs[2], c.Docs[0]
	wantRefused(t, c, good, api.ErrArg)
	many := cased("p.1=4 p.1/a.1=4")
	for range api.MaxFile - 3 {
		many, _, _ = engine.Do(office(), many, good, nil, 9)
	}
	wantRefused(t, many, good, api.ErrFull)
}

func TestP29_2TickErrors(t *testing.T) {
	c := cased("p.1=4 p.1/o.1=1@3 p.1/s.1=2")
	wantRoles(t, c, tick("", 3), "", "boss", "clerk")
	for _, n := range []int{math.MinInt, -1 << 40, -1, 1<<40 + 1, 1 << 61, math.MaxInt} {
		wantRefused(t, c, tick("boss", n), api.ErrArg)
		wantRefused(t, api.Case{Clock: math.MaxInt}, tick("boss", n), api.ErrArg) // ahead of what would be too late
		wantRefused(t, c, tick("nobody", n), api.ErrRole)
	}
	for _, x := range []struct{ clock, n int }{{1 << 61, 1}, {1<<61 - 1, 2}, {1<<61 - 1<<40 + 1, 1 << 40}, {1<<61 + 1, 0}, {1 << 62, 0}, {math.MaxInt, 0}, {math.MaxInt, 1}, {math.MaxInt, 1 << 40}} {
		c.Clock = x.clock
		wantRefused(t, c, tick("", x.n), api.ErrFull)
		wantRefused(t, c, tick("nobody", x.n), api.ErrRole)
	}
	// A timer that occurs is in the limit, as every transition is.
	c.Clock = 0
	wantError(t, office(), c, tick("", 3), api.ErrBudget, math.MinInt, -1, 0, 2)
}
