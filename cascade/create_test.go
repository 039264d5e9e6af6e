package cascade

import (
	"math"
	"slices"
	"strconv"
	"testing"

	"dossier/api"
	"dossier/tree"
)

func wantCreate(t *testing.T, from, up, item, to, events string) {
	t.Helper()
	c, l, err := Create(office(), cased(office(), from), up, item, api.MaxInst)
	wantDone(t, item+" below "+up, c, l, err, cased(office(), to), told(events))
}

func wantCreateError(t *testing.T, m api.Model, c api.Case, up, item string, most int, want api.Errno) {
	t.Helper()
	got, l, err := Create(m, c, up, item, most)
	wantError(t, item+" below "+up, got, l, err, want)
}

func TestP19_2Create(t *testing.T) {
	wantCreate(t, "p.1=4 p.1/s.1=4 p.1/s.1/t.1=7", "p.1/s.1", "t", "p.1=4 p.1/s.1=4 p.1/s.1/t.1=7 p.1/s.1/t.2=1", "p.1/s.1/t.2 create")
	wantCreate(t, "p.1=4 p.1/s.1=4 p.1/s.1/t.9=7 p.1/z.1=2", "p.1/s.1", "t", "p.1=4 p.1/s.1=4 p.1/s.1/t.9=7 p.1/s.1/t.10=1 p.1/z.1=2", "p.1/s.1/t.10 create")
	wantCreate(t, "p.1=4 p.1/s.1=4", "p.1/s.1", "w", "p.1=4 p.1/s.1=4 p.1/s.1/w.1=1", "p.1/s.1/w.1 create")
	wantCreate(t, "p.1=4 p.1/s.1=4", "p.1/s.1", "k", "p.1=4 p.1/s.1=4 p.1/s.1/k.1=1", "p.1/s.1/k.1 create")
	wantCreate(t, "p.1=4", "p.1", "e", "p.1=4 p.1/e.1=1", "p.1/e.1 create")
	wantCreate(t, "p.1=4", "p.1", "s", "p.1=4 p.1/s.1=1", "p.1/s.1 create")
	// The item can be any, and whatever there is can be above it.
	wantCreate(t, "p.1=7", "p.1", "v", "p.1=7 p.1/v.1=1", "p.1/v.1 create")
	wantCreate(t, "p.1=7", "p.1", "p", "p.1=7 p.1/p.1=1", "p.1/p.1 create")
	wantCreate(t, "p.1=4 p.1/none.1=99", "p.1/none.1", "a", "p.1=4 p.1/none.1=99 p.1/none.1/a.1=1", "p.1/none.1/a.1 create")
	wantCreate(t, "a.1=4 p.1=4", "a.1", "a", "a.1=4 a.1/a.1=1 p.1=4", "a.1/a.1 create")
	c := cased(office(), "=4 p.1=4 a.4=4")
	got, l, err := Create(office(), c, "", "a", 4)
	wantDone(t, "at the top", got, l, err, tree.Put(c, api.Inst{Path: "a.5", Item: "a", State: api.Available}), told("a.5 create"))
}

func TestP19_2None(t *testing.T) {
	c := cased(office(), "p.1=4 p.1/s.1=4")
	for _, most := range []int{-1, 0, 2, 300} {
		for _, up := range []string{"", "p", "p.2", "p.1/", "p.1/s", "s.1", "p.1/s.1/t.1"} {
			wantCreateError(t, office(), c, up, "t", most, api.ErrNone)
			wantCreateError(t, office(), api.Case{}, up, "t", most, api.ErrNone)
		}
		for _, item := range []string{"", "none", "t.1", "p.1", "T", "\xff"} {
			wantCreateError(t, office(), c, "p.1/s.1", item, most, api.ErrNone)
			wantCreateError(t, office(), c, "p.2", item, most, api.ErrNone)
		}
		wantCreateError(t, api.Model{}, c, "p.1", "t", most, api.ErrNone)
	}
}

func TestP19_2Budget(t *testing.T) {
	c := cased(office(), "p.1=4 p.1/s.1=4")
	for _, most := range []int{math.MinInt, -1, 0, 1, 2} {
		wantCreateError(t, office(), c, "p.1/s.1", "t", most, api.ErrBudget)
	}
	for _, most := range []int{3, 4, 300, math.MaxInt} {
		if got, _, err := Create(office(), c, "p.1/s.1", "t", most); err != api.OK || len(got.Insts) != 3 {
			t.Errorf("most %d: error %d, %+v", most, err, got)
		}
	}
}

// At the greatest number the new instance takes the place of the one that has it.
func TestP19_2Last(t *testing.T) {
	last := "p.1/a." + strconv.Itoa(1<<62)
	wantCreate(t, "p.1=4 p.1/a."+strconv.Itoa(1<<62-1)+"=7", "p.1", "a", "p.1=4 p.1/a."+strconv.Itoa(1<<62-1)+"=7 "+last+"=1", last+" create")
	wantCreate(t, "p.1=4 "+last+"=7", "p.1", "a", "p.1=4 "+last+"=1", last+" create")
}

func TestP19_3Root(t *testing.T) {
	want := api.Case{ID: 12, Model: "office", Insts: []api.Inst{
		{Path: "p.1", Item: "p", State: api.Active, Latches: []int{0}},
		{Path: "p.1/a.1", Item: "a", State: api.Available},
		{Path: "p.1/s.1", Item: "s", State: api.Available, Latches: []int{0, 0, 0}},
		{Path: "p.1/z.1", Item: "z", State: api.Available, Latches: []int{0}},
	}}
	for _, most := range []int{4, 5, 300, math.MaxInt} {
		c, l, err := Root(office(), 12, most)
		wantDone(t, "root", c, l, err, want, told("p.1 start, p.1/z.1 create, p.1/s.1 create, p.1/a.1 create"))
	}
	for _, most := range []int{math.MinInt, -1, 0, 1, 2, 3} {
		c, l, err := Root(office(), 12, most)
		wantError(t, "root", c, l, err, api.ErrBudget)
	}
}

func TestP19_3Plan(t *testing.T) {
	m := api.Model{ID: "m", Plan: api.Item{ID: "plan"}}
	for _, id := range []int{0, 1, -5, math.MaxInt, math.MinInt} {
		c, l, err := Root(m, id, 1)
		wantDone(t, "a plan alone", c, l, err, api.Case{ID: id, Model: "m", Insts: []api.Inst{{Path: "plan.1", Item: "plan", State: api.Active}}}, told("plan.1 start"))
	}
	for _, most := range []int{0, -1} {
		c, l, err := Root(m, 1, most)
		wantError(t, "a plan alone", c, l, err, api.ErrBudget)
	}
	m.Plan.Exit = make([]api.Sentry, 8)
	for k := range m.Plan.Exit {
		m.Plan.Exit[k].If = "true"
	}
	m.Plan.Kids = []api.Item{{ID: "w", Kind: api.ItemTimer, After: 9}}
	c, l, err := Root(m, 1, 2)
	wantDone(t, "sentries and a timer", c, l, err, api.Case{ID: 1, Model: "m", Insts: []api.Inst{
		{Path: "plan.1", Item: "plan", State: api.Active, Latches: make([]int, 8)}, {Path: "plan.1/w.1", Item: "w", State: api.Available, Due: 9},
	}}, told("plan.1 start, plan.1/w.1 create"))
}

func TestP19_3Invalid(t *testing.T) {
	for k, change := range []func(m *api.Model){
		func(m *api.Model) { m.ID = "" },
		func(m *api.Model) { m.Roles = []string{"x", "x"} },
		func(m *api.Model) { m.Files = []api.FileItem{{}} },
		func(m *api.Model) { m.Plan.Kind = api.ItemHuman },
		func(m *api.Model) { m.Plan.Kids[1].Kids[0].After = 0 },
		func(m *api.Model) { m.Plan.Kids = slices.Concat(m.Plan.Kids, m.Plan.Kids[:1]) },
		func(m *api.Model) { m.Plan.Kids[2].Manual = "1" },
		func(m *api.Model) { m.Plan.Table[0].ID = "p" },
	} {
		m := office()
		change(&m)
		for _, most := range []int{300, 0, -1} {
			c, l, err := Root(m, 1, most)
			wantError(t, "change "+strconv.Itoa(k), c, l, err, api.ErrArg)
		}
	}
	c, l, err := Root(api.Model{}, 1, 300)
	wantError(t, "no model", c, l, err, api.ErrArg)
}
