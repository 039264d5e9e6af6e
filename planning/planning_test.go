package planning_test

import (
	"math"
	"reflect"
	"slices"
	"strconv"
	"strings"
	"testing"

	"dossier/api"
	"dossier/cascade"
	"dossier/model"
	"dossier/planning"
	"dossier/settle"
	"dossier/tree"
)

const clock = 7 // of the cases of these tests

// office is a model with tables in its plan, in a stage, and in a stage of a table.
func office() api.Model {
	waits := []api.Sentry{{On: []api.OnPart{{Item: "z", Event: api.EvComplete}}}, {If: "true"}}
	inner := api.Item{ID: "e", Kind: api.ItemStage, Kids: []api.Item{{ID: "x", Kind: api.ItemHuman}}, Table: []api.Item{{ID: "q", Kind: api.ItemListener}, {ID: "g", Kind: api.ItemMilestone, Entry: waits}}}
	stage := api.Item{ID: "s", Kind: api.ItemStage, Kids: []api.Item{
		{ID: "t", Kind: api.ItemHuman},
		{ID: "u", Kind: api.ItemStage, Kids: []api.Item{{ID: "v", Kind: api.ItemDecision}}},
	}, Table: []api.Item{{ID: "w", Kind: api.ItemTimer, After: 5}, inner, {ID: "c", Kind: api.ItemCase, Entry: waits, Exit: waits[:1], Roles: []string{"boss"}}}}
	return api.Model{ID: "office", Roles: []string{"boss"}, Plan: api.Item{ID: "p", Kids: []api.Item{
		{ID: "z", Kind: api.ItemHuman}, stage, {ID: "m", Kind: api.ItemMilestone}, {ID: "l", Kind: api.ItemListener}, {ID: "o", Kind: api.ItemTimer, After: 1},
	}, Table: []api.Item{{ID: "d", Kind: api.ItemHuman}}}}
}

// cased makes a case of instances such as "p.1/s.1=4": the path and the state. They are as new ones are otherwise.
func cased(insts string) api.Case {
	c := api.Case{ID: 3, Model: "office", Clock: clock, Docs: []api.Doc{{Path: "f#1", Refs: []string{"f#1"}}}}
	for s := range strings.FieldsSeq(insts) {
		path, state, _ := strings.Cut(s, "=")
		x := api.Inst{Path: path}
		x.Item, _ = tree.Last(path)
		x.State, _ = strconv.Atoi(state)
		i, _ := model.Find(office(), x.Item)
		x.Latches = make([]int, len(i.Entry)+len(i.Exit))
		if i.Kind == api.ItemTimer {
			x.Due = clock + i.After
		}
		c.Insts = append(c.Insts, x)
	}
	return c
}

func in(path string, state int) string { return path + "=" + strconv.Itoa(state) }

// everyState has all states, and numbers that are none.
var everyState = [...]int{math.MinInt, -4, -1, 0, 1, 2, 3, 4, 5, 6, 7, 8, 9, 10, 14, math.MaxInt}

// wantItems holds what can be planned, given by IDs such as "w e c".
func wantItems(t *testing.T, m api.Model, c api.Case, path, want string) {
	t.Helper()
	if got := planning.Items(m, c, path); !slices.Equal(got, strings.Fields(want)) {
		t.Errorf("%q in %q of %+v, want %q", got, path, c.Insts, want)
	}
}

// wantPlan holds that an item is planned, and the case is another one then.
func wantPlan(t *testing.T, m api.Model, c api.Case, path, item string, want api.Case, created string) {
	t.Helper()
	for _, most := range []int{len(c.Insts) + 1, api.MaxInst, math.MaxInt} {
		got, l, err := planning.Plan(m, c, path, item, most)
		if err != api.OK || !tree.Same(got, want) || !slices.Equal(l, []api.Event{{Path: created, Event: api.EvCreate}}) {
			t.Errorf("%q below %q, most %d: error %d\n%+v\n%v, want\n%+v\n%s", item, path, most, err, got, l, want, created)
		}
	}
}

// wantError holds an error for several limits.
func wantError(t *testing.T, m api.Model, c api.Case, path, item string, want api.Errno, limits ...int) {
	t.Helper()
	for _, most := range limits {
		got, l, err := planning.Plan(m, c, path, item, most)
		if err != want || !reflect.DeepEqual(got, api.Case{}) || len(l) > 0 {
			t.Errorf("%q below %q of %+v, most %d: error %d, %+v, %v, want error %d alone", item, path, c.Insts, most, err, got, l, want)
		}
	}
}

// limits are some that make no difference.
var limits = []int{math.MinInt, -1, 0, 1, 2, api.MaxInst, math.MaxInt}

func TestOffice(t *testing.T) {
	if err := model.Check(office()); err != api.OK {
		t.Fatal(err)
	}
}

// Only in an Active instance something can be planned, whatever there is above it.
func TestP28_1States(t *testing.T) {
	m := office()
	for _, state := range everyState {
		c, table, plan := cased("p.1=4 "+in("p.1/s.1", state)), "", ""
		if state == api.Active {
			table, plan = "w e c", "d"
		}
		wantItems(t, m, c, "p.1/s.1", table)
		wantItems(t, m, c, "p.1", "d")
		wantItems(t, m, cased(in("p.1", state)), "p.1", plan)
		wantItems(t, m, cased(in("p.1", state)+" p.1/s.1=4"), "p.1/s.1", "w e c")
		wantItems(t, m, cased(in("p.1/s.1", state)), "p.1/s.1", table)
		wantItems(t, m, cased("p.1=4 p.1/s.1=5 "+in("p.1/s.2", state)+" p.1/s.3=6"), "p.1/s.2", table)
		if state == api.Active {
			wantPlan(t, m, c, "p.1/s.1", "w", cased("p.1=4 p.1/s.1=4 p.1/s.1/w.1=1"), "p.1/s.1/w.1")
			wantPlan(t, m, cased("p.1=8 p.1/s.1=4"), "p.1/s.1", "w", cased("p.1=8 p.1/s.1=4 p.1/s.1/w.1=1"), "p.1/s.1/w.1")
			continue
		}
		for _, item := range []string{"w", "e", "c"} {
			wantError(t, m, c, "p.1/s.1", item, api.ErrState, limits...)
		}
		wantError(t, m, cased(in("p.1", state)), "p.1", "d", api.ErrState, limits...)
		wantError(t, m, c, "p.1/s.1", "d", api.ErrNone, limits...) // ahead of the state
		wantError(t, m, c, "p.1/s.1", "", api.ErrNone, limits...)
	}
}

// The table alone counts: neither kids, nor tables further in or further out.
func TestP28_1Table(t *testing.T) {
	m := office()
	c := cased("p.1=4 p.1/l.1=1 p.1/m.1=1 p.1/o.1=1 p.1/s.1=4 p.1/s.1/e.1=4 p.1/s.1/e.1/x.1=4 p.1/s.1/t.1=4 p.1/s.1/u.1=4 p.1/s.1/u.1/v.1=4 p.1/z.1=4")
	may := map[string]string{"p.1": "d", "p.1/s.1": "w e c", "p.1/s.1/e.1": "q g"}
	for _, x := range c.Insts {
		wantItems(t, m, c, x.Path, may[x.Path])
		for _, i := range append(model.Items(m), api.Item{}, api.Item{ID: "none"}, api.Item{ID: "office"}, api.Item{ID: x.Path}, api.Item{ID: x.Path + "/w"}, api.Item{ID: "\xff"}) {
			if !slices.Contains(strings.Fields(may[x.Path]), i.ID) {
				wantError(t, m, c, x.Path, i.ID, api.ErrNone, limits...)
			}
		}
	}
	// Those of a table stand in its order.
	s := m.Plan.Kids[1]
	slices.Reverse(s.Table)
	wantItems(t, m, c, "p.1/s.1", "c e w")
}

func TestP28_1Plan(t *testing.T) {
	m := office()
	const insts = "p.1=4 p.1/s.1=4 p.1/s.1/c.9=7 p.1/s.1/t.1=4 p.1/s.2=4 p.1/z.1=4"
	c := cased(insts)
	wantPlan(t, m, c, "p.1/s.1", "w", cased("p.1=4 p.1/s.1=4 p.1/s.1/c.9=7 p.1/s.1/t.1=4 p.1/s.1/w.1=1 p.1/s.2=4 p.1/z.1=4"), "p.1/s.1/w.1")
	wantPlan(t, m, c, "p.1/s.1", "e", cased("p.1=4 p.1/s.1=4 p.1/s.1/c.9=7 p.1/s.1/e.1=1 p.1/s.1/t.1=4 p.1/s.2=4 p.1/z.1=4"), "p.1/s.1/e.1")
	wantPlan(t, m, c, "p.1/s.1", "c", cased("p.1=4 p.1/s.1=4 p.1/s.1/c.9=7 p.1/s.1/c.10=1 p.1/s.1/t.1=4 p.1/s.2=4 p.1/z.1=4"), "p.1/s.1/c.10")
	wantPlan(t, m, c, "p.1/s.2", "c", cased("p.1=4 p.1/s.1=4 p.1/s.1/c.9=7 p.1/s.1/t.1=4 p.1/s.2=4 p.1/s.2/c.1=1 p.1/z.1=4"), "p.1/s.2/c.1")
	wantPlan(t, m, c, "p.1", "d", cased("p.1=4 p.1/d.1=1 p.1/s.1=4 p.1/s.1/c.9=7 p.1/s.1/t.1=4 p.1/s.2=4 p.1/z.1=4"), "p.1/d.1")
	got, _, _ := planning.Plan(m, c, "p.1/s.1", "c", 7)
	if x, is := tree.Find(got, "p.1/s.1/c.10"); !is || !reflect.DeepEqual(x, api.Inst{Path: "p.1/s.1/c.10", Item: "c", State: api.Available, Latches: []int{0, 0, 0}}) {
		t.Errorf("%+v", x)
	}
	got, _, _ = planning.Plan(m, c, "p.1/s.1", "w", 7)
	if x, is := tree.Find(got, "p.1/s.1/w.1"); !is || x.Due != clock+5 {
		t.Errorf("%+v", x)
	}
	if !tree.Same(c, cased(insts)) {
		t.Error("an argument was modified")
	}
}

func TestP28_1Budget(t *testing.T) {
	m, c := office(), cased("p.1=4 p.1/s.1=4 p.1/z.1=4")
	wantError(t, m, c, "p.1/s.1", "w", api.ErrBudget, math.MinInt, -1, 0, 1, 2, 3)
	wantError(t, m, c, "p.1", "d", api.ErrBudget, math.MinInt, -1, 0, 1, 2, 3)
	wantPlan(t, m, c, "p.1/s.1", "w", cased("p.1=4 p.1/s.1=4 p.1/s.1/w.1=1 p.1/z.1=4"), "p.1/s.1/w.1")
}

func TestP28_1NoInstance(t *testing.T) {
	m, c := office(), cased("p.1=4 p.1/none.1=4 p.1/s.1=4")
	for _, path := range []string{"", "p", "p.2", "p.1/", "s", "s.1", "p.1/s", "p.1/s.2", "p.1/s.1/", "p.1/s.1/e.1", "p.1/none.1", "p.1/none.2", "\xff"} {
		for _, item := range []string{"d", "w", "e", "", path} {
			wantItems(t, m, c, path, "")
			wantError(t, m, c, path, item, api.ErrNone, limits...)
			wantItems(t, m, api.Case{}, path, "")
			wantError(t, m, api.Case{}, path, item, api.ErrNone, limits...)
			wantItems(t, api.Model{}, c, path, "")
			wantError(t, api.Model{}, c, path, item, api.ErrNone, limits...)
		}
	}
	wantItems(t, api.Model{}, c, "p.1/s.1", "")
	wantError(t, api.Model{}, c, "p.1/s.1", "w", api.ErrNone, limits...)
	// A stage without an ID is none of an instance that is not there.
	m.Plan.Kids = append(m.Plan.Kids, api.Item{Table: []api.Item{{ID: "n"}}})
	wantItems(t, m, c, "p.1/s.2", "")
	wantError(t, m, c, "p.1/s.2", "n", api.ErrNone, limits...)
}

// Only a stage has something to plan, also if another item of a model made by hand has a table.
func TestP28_1Kinds(t *testing.T) {
	for _, kind := range []int{math.MinInt, -1, api.ItemHuman, api.ItemProcess, api.ItemCase, api.ItemDecision, api.ItemMilestone, api.ItemListener, api.ItemTimer, 8, math.MaxInt} {
		m := office()
		m.Plan.Kids[1].Kind, m.Plan.Kind = kind, kind
		for _, state := range everyState {
			c := cased("p.1=4 " + in("p.1/s.1", state))
			wantItems(t, m, c, "p.1/s.1", "")
			wantItems(t, m, c, "p.1", "")
			wantError(t, m, c, "p.1/s.1", "w", api.ErrNone, limits...)
			wantError(t, m, c, "p.1", "d", api.ErrNone, limits...)
		}
	}
}

func TestP28_1MadeByHand(t *testing.T) {
	m := office()
	// Item says whose instance it is.
	c := cased("p.1=4 p.1/none.1=4 p.1/s.1=4")
	c.Insts[1].Item, c.Insts[2].Item = "s", "z"
	wantItems(t, m, c, "p.1/none.1", "w e c")
	wantItems(t, m, c, "p.1/s.1", "")
	wantPlan(t, m, c, "p.1/none.1", "w", tree.Put(c, api.Inst{Path: "p.1/none.1/w.1", Item: "w", State: api.Available, Due: clock + 5}), "p.1/none.1/w.1")
	wantError(t, m, c, "p.1/s.1", "w", api.ErrNone, limits...)
	// Of two instances at one path the first one counts.
	c = cased("p.1=4 p.1/s.1=5 p.1/s.1=4")
	wantItems(t, m, c, "p.1/s.1", "")
	wantError(t, m, c, "p.1/s.1", "w", api.ErrState, limits...)
	c = cased("p.1=4 p.1/s.1=4 p.1/s.1=5")
	wantItems(t, m, c, "p.1/s.1", "w e c")
	wantPlan(t, m, c, "p.1/s.1", "w", cased("p.1=4 p.1/s.1=4 p.1/s.1=5 p.1/s.1/w.1=1"), "p.1/s.1/w.1")
	// An ID that is there twice stands for the first item that has it: of a stage, and of what is planned.
	c = cased("p.1=4 p.1/s.1=4")
	m.Plan.Table = append(m.Plan.Table, api.Item{ID: "w", Kind: api.ItemHuman}, api.Item{ID: "s", Table: []api.Item{{ID: "n"}}}, api.Item{ID: "w"})
	wantItems(t, m, c, "p.1", "d w s w")
	wantItems(t, m, c, "p.1/s.1", "w e c")
	wantError(t, m, c, "p.1/s.1", "n", api.ErrNone, limits...)
	wantPlan(t, m, c, "p.1", "w", cased("p.1=4 p.1/s.1=4 p.1/w.1=1"), "p.1/w.1")
	// An item without an ID, and a path that is empty.
	m = api.Model{Plan: api.Item{Table: []api.Item{{ID: ""}}}}
	c = api.Case{Insts: []api.Inst{{State: api.Active}}}
	if l := planning.Items(m, c, ""); !slices.Equal(l, []string{""}) {
		t.Errorf("%q", l)
	}
	wantPlan(t, m, c, "", "", api.Case{Insts: []api.Inst{{State: api.Active}, {Path: ".1", State: api.Available}}}, ".1")
}

// The spare capacity of lists does not count, and is left alone; results are new ones.
func TestP28_1Memory(t *testing.T) {
	m, c := office(), cased("p.1=4 p.1/s.1=4 p.1/s.2=4 p.1/z.1=4")
	m.Plan.Table = append(m.Plan.Table, api.Item{ID: "spare"})[:1]
	c.Insts = c.Insts[:2]
	wantItems(t, m, c, "p.1", "d")
	wantItems(t, m, c, "p.1/s.2", "")
	wantError(t, m, c, "p.1", "spare", api.ErrNone, limits...)
	wantError(t, m, c, "p.1/s.2", "w", api.ErrNone, limits...)
	l := planning.Items(m, c, "p.1/s.1")
	for k := range l[:cap(l)] {
		l[:cap(l)][k] = "spoilt"
	}
	wantItems(t, m, c, "p.1/s.1", "w e c")
	got, _, _ := planning.Plan(m, c, "p.1/s.1", "c", 9)
	for k := range got.Insts {
		got.Insts[k] = api.Inst{Path: "spoilt"}
	}
	got.Docs[0].Refs[0] = "spoilt"
	c.Insts = c.Insts[:4]
	if !tree.Same(c, cased("p.1=4 p.1/s.1=4 p.1/s.2=4 p.1/z.1=4")) || m.Plan.Table[:2][1].ID != "spare" {
		t.Error("an argument was modified")
	}
}

// A deep model takes no more memory, and a wide one no more time, than it has items.
func TestP28_1Large(t *testing.T) {
	const levels, row = 1 << 16, 200000
	i := api.Item{ID: "s", Kind: api.ItemStage, Table: []api.Item{{ID: "last", Kind: api.ItemHuman}}}
	for range levels {
		i = api.Item{ID: "a", Kind: api.ItemStage, Table: []api.Item{i}}
	}
	m, c := api.Model{Plan: i}, cased("a.1=4 s.1=4")
	wantItems(t, m, c, "a.1", "a")
	wantItems(t, m, c, "s.1", "last")
	wantPlan(t, m, c, "s.1", "last", cased("a.1=4 s.1=4 s.1/last.1=1"), "s.1/last.1")
	m.Plan.Table = make([]api.Item, row)
	for k := range m.Plan.Table {
		m.Plan.Table[k].ID = "i" + strconv.Itoa(k)
	}
	if l := planning.Items(m, c, "a.1"); len(l) != row || l[row-1] != "i"+strconv.Itoa(row-1) {
		t.Error(len(l))
	}
	wantPlan(t, m, c, "a.1", "i199999", tree.Put(c, api.Inst{Path: "a.1/i199999.1", Item: "i199999", State: api.Available}), "a.1/i199999.1")
}

// What is planned goes on like any other instance.
func TestP28_1Settled(t *testing.T) {
	m := office()
	c, l, err := cascade.Root(m, 1, api.MaxInst)
	if err == api.OK {
		c, _, err = settle.Settle(m, c, l, nil, api.MaxInst)
	}
	wantItems(t, m, c, "p.1/s.1", "w e c")
	for _, x := range []struct{ path, item string }{{"p.1/s.1", "e"}, {"p.1/s.1/e.1", "q"}, {"p.1", "d"}, {"p.1", "d"}} {
		if err == api.OK {
			c, l, err = planning.Plan(m, c, x.path, x.item, api.MaxInst)
		}
		if err == api.OK {
			c, _, err = settle.Settle(m, c, l, nil, api.MaxInst)
		}
	}
	if err != api.OK {
		t.Fatal(err)
	}
	for path, state := range map[string]int{"p.1/d.1": api.Active, "p.1/d.2": api.Active, "p.1/s.1/e.1": api.Active, "p.1/s.1/e.1/q.1": api.Available, "p.1/s.1/e.1/x.1": api.Active} {
		if x, is := tree.Find(c, path); !is || x.State != state {
			t.Errorf("%s: %+v", path, x)
		}
	}
}

func TestP28_1Example(t *testing.T) {
	wantItems(t, office(), cased("p.1=4 p.1/s.1=4 p.1/s.1/u.1=4"), "p.1/s.1/u.1", "")
	c, _, err := cascade.Root(api.Model{ID: "m", Plan: api.Item{ID: "p"}}, 1, 1)
	if err != api.OK {
		t.Fatal(err)
	}
	wantItems(t, api.Model{ID: "m", Plan: api.Item{ID: "p"}}, c, "p.1", "")
}
