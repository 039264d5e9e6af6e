package finish_test

import (
	"math"
	"slices"
	"strconv"
	"strings"
	"testing"

	"dossier/api"
	"dossier/cascade"
	"dossier/finish"
	"dossier/model"
	"dossier/tree"
)

// Conditions that hold, and that do not, by the case file of these tests; the last two are none.
const (
	holds   = "f > 5"
	fails   = "f < 5"
	unknown = "1 / 0 = 1 or true"
	number  = "f"
	wrong   = "f >"
)

// everyState has all states, and numbers that are none.
var everyState = [...]int{math.MinInt, -1, 0, 1, 2, 3, 4, 5, 6, 7, 8, 9, 10, math.MaxInt}

var (
	works    = [...]int{api.ItemStage, api.ItemHuman, api.ItemProcess, api.ItemCase, api.ItemDecision, api.ItemMilestone}
	others   = [...]int{api.ItemListener, api.ItemTimer}
	unknowns = [...]int{-1, 8, 14, math.MaxInt, math.MinInt}
)

// ended tells the states that an instance has ended in.
func ended(state int) bool {
	return slices.Contains([]int{api.Disabled, api.Failed, api.Completed, api.Terminated}, state)
}

// office is a model with a stage in its plan, in which there is an item of a kind.
func office(kind int) api.Model {
	x := api.Item{ID: "x", Kind: kind}
	inner := api.Item{ID: "i", Kind: api.ItemStage, Kids: []api.Item{{ID: "h", Kind: api.ItemHuman, Required: holds}}}
	stage := api.Item{ID: "s", Kind: api.ItemStage, Kids: []api.Item{x, {ID: "y", Kind: api.ItemHuman}, inner}}
	return api.Model{ID: "office", Files: []api.FileItem{{Name: "f", Kind: api.KindInt}}, Plan: api.Item{ID: "p", Kids: []api.Item{{ID: "o", Kind: api.ItemHuman}, stage}}}
}

// with is that model with another stage and another item in it.
func with(kind int, change func(stage, x *api.Item)) api.Model {
	m := office(kind)
	change(&m.Plan.Kids[1], &m.Plan.Kids[1].Kids[0])
	return m
}

// required is that model, in which the item has a rule.
func required(kind int, rule string) api.Model {
	return with(kind, func(_, x *api.Item) { x.Required = rule })
}

// cased makes a case of instances such as "p.1/s.1=4": the path and the state.
func cased(insts string) api.Case {
	c := api.Case{ID: 3, Model: "office", Clock: 7, Docs: []api.Doc{{Path: "f#1", Value: api.Value{Kind: api.KindInt, Int: 9}}}}
	for s := range strings.FieldsSeq(insts) {
		path, state, _ := strings.Cut(s, "=")
		x := api.Inst{Path: path}
		x.Item, _ = tree.Last(path)
		x.State, _ = strconv.Atoi(state)
		c.Insts = append(c.Insts, x)
	}
	return c
}

// staged is a case with an Active stage, and instances below it.
func staged(below string) api.Case {
	insts := "p.1=4 p.1/s.1=4"
	for s := range strings.FieldsSeq(below) {
		insts += " p.1/s.1/" + s
	}
	return cased(insts)
}

func in(path string, state int) string { return path + "=" + strconv.Itoa(state) }

func wantMay(t *testing.T, m api.Model, c api.Case, path string, want bool) {
	t.Helper()
	if finish.May(m, c, path) != want {
		t.Errorf("%q may complete: %t, in %+v of %+v", path, !want, c.Insts, m.Plan)
	}
	if !want && (finish.Done(m, c, path) || slices.Contains(finish.All(m, c), path)) {
		t.Errorf("%q is done but can't complete, in %+v of %+v", path, c.Insts, m.Plan)
	}
}

// wantDone holds what is done; all that is, may complete.
func wantDone(t *testing.T, m api.Model, c api.Case, path string, want bool) {
	t.Helper()
	if finish.Done(m, c, path) != want || slices.Contains(finish.All(m, c), path) != want {
		t.Errorf("%q is done: %t, one of %q, in %+v of %+v", path, finish.Done(m, c, path), finish.All(m, c), c.Insts, m.Plan)
	}
	wantMay(t, m, c, path, want || finish.May(m, c, path))
}

func TestOffice(t *testing.T) {
	m := required(api.ItemMilestone, "number(x, available) = 1")
	m.Plan.Kids[0].Required = unknown
	if err := model.Check(m); err != api.OK {
		t.Fatal(err)
	}
}

// Only an Active instance of a stage may complete, whatever there is above it.
func TestP23_1Stage(t *testing.T) {
	for _, state := range everyState {
		wantMay(t, office(api.ItemHuman), cased("p.1=4 "+in("p.1/s.1", state)), "p.1/s.1", state == api.Active)
		wantMay(t, office(api.ItemHuman), cased(in("p.1", state)), "p.1", state == api.Active)
		wantMay(t, office(api.ItemHuman), cased(in("p.1", state)+" p.1/s.1=4"), "p.1/s.1", true)
		for _, kind := range slices.Concat(works[1:], others[:], unknowns[:]) {
			wantMay(t, office(kind), staged(in("x.1", state)), "p.1/s.1/x.1", false)
		}
		wantMay(t, office(api.ItemStage), staged(in("x.1", state)), "p.1/s.1/x.1", state == api.Active)
	}
	wantMay(t, office(api.ItemHuman), cased("p.1/s.1=4"), "p.1/s.1", true)
	wantMay(t, office(api.ItemHuman), cased("p.1=4 p.1/s.1=4 p.1/s.2=7"), "p.1/s.2", false)
}

func TestP23_1None(t *testing.T) {
	c := cased("p.1=4 p.1/none.1=4 p.1/s.1=4")
	for _, path := range []string{"", "p", "p.2", "p.1/", "s.1", "p.1/s", "p.1/s.2", "p.1/s.1/", "p.1/s.1/x.1", "p.1/none.1", "p.1/none.2", "\xff"} {
		wantMay(t, office(api.ItemHuman), c, path, false)
		wantMay(t, office(api.ItemHuman), api.Case{}, path, false)
		wantMay(t, api.Model{}, c, path, false)
		wantMay(t, api.Model{}, api.Case{}, path, false)
	}
	wantMay(t, api.Model{}, c, "p.1/s.1", false)
	wantMay(t, office(api.ItemHuman), c, "p.1/s.1", true)
	m := office(api.ItemHuman) // a stage without an ID is none of an instance that is not there
	m.Plan.Kids = append(m.Plan.Kids, api.Item{Kind: api.ItemStage})
	wantMay(t, m, c, "p.1/s.2", false)
	c.Insts[1].Item = "s" // Item says whose instance it is
	wantMay(t, office(api.ItemHuman), c, "p.1/none.1", true)
	m.Plan.Kind = api.ItemHuman // a plan made by hand
	wantMay(t, m, cased("p.1=4"), "p.1", false)
}

// None of the stages, tasks and milestones in it is Active.
func TestP23_1Active(t *testing.T) {
	for _, state := range everyState {
		for _, kind := range works {
			wantMay(t, office(kind), staged(in("x.1", state)), "p.1/s.1", state != api.Active)
			wantMay(t, office(kind), staged("x.1=7 "+in("x.2", state)+" x.3=8"), "p.1/s.1", state != api.Active)
			wantMay(t, office(kind), staged("x.1=1 "+in("y.1", state)), "p.1/s.1", state != api.Active)
			wantMay(t, office(kind), cased("p.1=4 "+in("p.1/s.1", state)), "p.1", state != api.Active)
		}
		for _, kind := range slices.Concat(others[:], unknowns[:]) {
			wantMay(t, office(kind), staged(in("x.1", state)), "p.1/s.1", true)
		}
		wantMay(t, office(api.ItemHuman), staged(in("none.1", state)), "p.1/s.1", true)
	}
	// Discretionary items count like others.
	m := with(api.ItemHuman, func(s, _ *api.Item) { s.Kids, s.Table = nil, s.Kids })
	wantMay(t, m, staged("x.1=4"), "p.1/s.1", false)
	wantMay(t, m, staged("x.1=2"), "p.1/s.1", true)
}

// All that are required have ended.
func TestP23_1Required(t *testing.T) {
	for _, state := range everyState {
		for _, kind := range works {
			wantMay(t, required(kind, holds), staged(in("x.1", state)), "p.1/s.1", ended(state))
			wantMay(t, required(kind, holds), staged("x.1=7 "+in("x.2", state)+" x.3=8"), "p.1/s.1", ended(state))
			wantMay(t, required(kind, holds), staged("x.1=7 "+in("y.1", state)), "p.1/s.1", state != api.Active)
			for rule, is := range map[string]bool{"": false, holds: true, fails: false, unknown: false, number: false, wrong: false, "true": true, "not true": false} {
				wantMay(t, required(kind, rule), staged(in("x.1", state)), "p.1/s.1", state != api.Active && (!is || ended(state)))
			}
		}
		for _, kind := range slices.Concat(others[:], unknowns[:]) {
			wantMay(t, required(kind, holds), staged(in("x.1", state)), "p.1/s.1", true)
		}
		// In the plan, too, and whether or not the stage itself is required.
		m := with(api.ItemHuman, func(s, _ *api.Item) { s.Required = holds })
		wantMay(t, m, cased("p.1=4 "+in("p.1/s.1", state)), "p.1", ended(state))
		wantMay(t, m, cased("p.1=4 "+in("p.1/s.1", state)), "p.1/s.1", state == api.Active)
	}
}

// A rule is asked in the case as it is.
func TestP23_1Case(t *testing.T) {
	m := required(api.ItemHuman, "number(x, available) = 1")
	wantMay(t, m, staged("x.1=1"), "p.1/s.1", false)
	wantMay(t, m, staged("x.1=1 x.2=1"), "p.1/s.1", true)
	wantMay(t, m, staged("x.1=1 x.2=2"), "p.1/s.1", false)
	wantMay(t, m, staged("x.1=2 x.2=7"), "p.1/s.1", true)
	c := staged("x.1=1")
	wantMay(t, required(api.ItemHuman, holds), c, "p.1/s.1", false)
	c.Docs[0].Value.Int = 5
	wantMay(t, required(api.ItemHuman, holds), c, "p.1/s.1", true)
	c.Docs = nil
	wantMay(t, required(api.ItemHuman, holds), c, "p.1/s.1", true)
}

// What counts is directly below the instance.
func TestP23_1Below(t *testing.T) {
	m := office(api.ItemHuman)
	for _, state := range everyState {
		is := state != api.Active
		wantMay(t, m, staged(in("i.1", state)), "p.1/s.1", is)
		wantMay(t, m, staged("i.1=5 "+in("i.1/h.1", state)), "p.1/s.1", true)
		wantMay(t, m, staged("i.1=4 "+in("i.1/h.1", state)), "p.1/s.1/i.1", ended(state))
		wantMay(t, m, staged("x.1=1 "+in("x.1/h.1", state)), "p.1/s.1", true)
		wantMay(t, m, cased("p.1=4 p.1/s.1=4 p.1/s.10=8 "+in("p.1/s.10/x.1", state)+" p.1/s.2=4 "+in("p.1/s.2/x.1", state)), "p.1/s.1", true)
		wantMay(t, m, cased("p.1=4 p.1/s.1=4 p.1/s.2=4 "+in("p.1/s.2/x.1", state)), "p.1/s.2", is)
		wantMay(t, m, cased("p.1=4 "+in("p.1/o.1", state)+" p.1/s.1=4"), "p.1/s.1", true)
		wantMay(t, m, cased("p.1=4 "+in("q.1", state)), "p.1", true)
	}
}

// What is done may complete, and either completes by its Auto or has nothing left.
func TestP23_2Done(t *testing.T) {
	for _, state := range everyState {
		for _, kind := range works {
			wantDone(t, office(kind), staged(in("x.1", state)), "p.1/s.1", ended(state))
			wantDone(t, office(kind), staged("x.1=3 "+in("x.2", state)+" y.1=5"), "p.1/s.1", ended(state))
			wantDone(t, required(kind, holds), staged(in("x.1", state)), "p.1/s.1", ended(state))
		}
		for _, kind := range slices.Concat(others[:], unknowns[:]) {
			wantDone(t, office(kind), staged(in("x.1", state)), "p.1/s.1", true)
			wantDone(t, office(kind), staged(in("x.1", state)+" y.1=1"), "p.1/s.1", false)
		}
		wantDone(t, office(api.ItemHuman), staged(in("none.1", state)), "p.1/s.1", true)
		wantDone(t, office(api.ItemHuman), cased("p.1=4 "+in("p.1/s.1", state)), "p.1", ended(state))
		wantDone(t, office(api.ItemHuman), cased("p.1=4 "+in("p.1/s.1", state)), "p.1/s.1", state == api.Active)
		wantDone(t, office(api.ItemHuman), staged("i.1=5 "+in("i.1/h.1", state)), "p.1/s.1", true)
		wantDone(t, office(api.ItemHuman), cased("p.1=4 p.1/s.1=4 p.1/s.10=8 "+in("p.1/s.10/x.1", state)), "p.1/s.1", true)
	}
}

func TestP23_2Auto(t *testing.T) {
	for _, state := range everyState {
		for _, table := range [][]api.Item{nil, {{ID: "d", Kind: api.ItemHuman}}} {
			for _, kind := range works {
				m := with(kind, func(s, _ *api.Item) { s.Auto, s.Table = true, table })
				wantDone(t, m, staged(in("x.1", state)), "p.1/s.1", state != api.Active)
				m = with(kind, func(s, x *api.Item) { s.Auto, s.Table, x.Required = true, table, holds })
				wantDone(t, m, staged(in("x.1", state)), "p.1/s.1", ended(state))
				m = with(kind, func(s, x *api.Item) { s.Auto, s.Table, x.Required = true, table, fails })
				wantDone(t, m, staged(in("x.1", state)), "p.1/s.1", state != api.Active)
			}
			m := with(api.ItemHuman, func(s, _ *api.Item) { s.Auto, s.Table = true, table })
			wantDone(t, m, cased("p.1=4 "+in("p.1/s.1", state)), "p.1/s.1", state == api.Active)
		}
		// The Auto of another stage makes no difference.
		m := with(api.ItemStage, func(_, x *api.Item) { x.Auto = true })
		m.Plan.Auto = true
		wantDone(t, m, staged(in("x.1", state)), "p.1/s.1", ended(state))
	}
}

// With a table, a stage that has no Auto waits for its command.
func TestP23_2Table(t *testing.T) {
	m := with(api.ItemHuman, func(s, _ *api.Item) { s.Table = []api.Item{{ID: "d", Kind: api.ItemListener}} })
	for _, state := range everyState {
		wantDone(t, m, staged(in("x.1", state)), "p.1/s.1", false)
		wantDone(t, m, cased("p.1=4 "+in("p.1/s.1", state)), "p.1", ended(state)) // the table is that of the stage below
	}
	wantDone(t, m, staged(""), "p.1/s.1", false)
	wantDone(t, m, staged("d.1=8"), "p.1/s.1", false)
	wantMay(t, m, staged("d.1=8"), "p.1/s.1", true)
	m.Plan.Table = []api.Item{{ID: "e", Kind: api.ItemHuman}}
	wantDone(t, m, cased("p.1=4"), "p.1", false)
	wantDone(t, office(api.ItemHuman), cased("p.1=4"), "p.1", true)
}

func wantAll(t *testing.T, m api.Model, c api.Case, want ...string) {
	t.Helper()
	if got := finish.All(m, c); !slices.Equal(got, want) {
		t.Errorf("%q, want %q", got, want)
	}
}

func TestP23_2All(t *testing.T) {
	m := office(api.ItemStage)
	wantAll(t, m, cased("p.1=4 p.1/s.1=4 p.1/s.1/i.1=7 p.1/s.2=4 p.1/s.2/y.1=1 p.1/s.3=7 p.1/s.10=4"), "p.1/s.1", "p.1/s.10")
	wantAll(t, m, cased("p.1=4 p.1/s.1=4 p.1/s.1/i.1=4 p.1/s.1/x.1=4 p.1/s.2=4"), "p.1/s.1/i.1", "p.1/s.1/x.1", "p.1/s.2")
	wantAll(t, m, cased("p.1=4 p.1/o.1=7 p.1/s.1=8"), "p.1")
	wantAll(t, m, cased("p.1=4 p.1/o.1=1"))
	wantAll(t, m, api.Case{})
	wantAll(t, api.Model{}, cased("p.1=4 p.1/s.1=4"))
	// A stage that has failed does not keep what is in it from being done, nor what it is in.
	wantAll(t, m, cased("p.1=4 p.1/s.1=5 p.1/s.1/i.1=4 p.1/s.1/i.1/h.1=7"), "p.1", "p.1/s.1/i.1")
}

func TestP23_2Example(t *testing.T) {
	c, _, err := cascade.Root(api.Model{ID: "m", Plan: api.Item{ID: "p"}}, 1, 1)
	if err != api.OK {
		t.Fatal(err)
	}
	wantDone(t, api.Model{ID: "m", Plan: api.Item{ID: "p"}}, c, "p.1", true)
}
