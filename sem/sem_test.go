package sem_test

import (
	"math"
	"math/rand"
	"reflect"
	"strconv"
	"strings"
	"testing"

	"dossier/api"
	"dossier/cascade"
	"dossier/model"
	"dossier/round"
	"dossier/rules"
	"dossier/sem"
	"dossier/settle"
	"dossier/states"
	"dossier/tree"
)

// on is a sentry that waits for all of some events, such as "a complete", if a condition holds.
func on(condition string, events ...string) api.Sentry {
	s := api.Sentry{If: condition}
	for _, e := range events {
		source, name, _ := strings.Cut(e, " ")
		event, _ := model.EventOf(name)
		s.On = append(s.On, api.OnPart{Item: source, Event: event})
	}
	return s
}

func one(event string) []api.Sentry { return []api.Sentry{on("", event)} }

// office is a model in which much happens by itself. It is a valid one.
func office(t *testing.T) api.Model {
	t.Helper()
	m := api.Model{ID: "office", Files: []api.FileItem{{Name: "f", Kind: api.KindInt}}, Plan: api.Item{ID: "p", Exit: []api.Sentry{on("number(n, active) > 2")}, Kids: []api.Item{
		{ID: "l", Kind: api.ItemListener},
		{ID: "a", Kind: api.ItemHuman, Repeat: "number(a, completed) < 4", Required: "true"},
		{ID: "b", Kind: api.ItemProcess, Free: true, Entry: one("a complete"), Repeat: "number(b, available) < 2"},
		{ID: "s", Kind: api.ItemStage, Entry: one("b complete"), Exit: []api.Sentry{on("", "l occur"), on("number(o, completed) > 5")}, Repeat: "number(s, active) = 0", Kids: []api.Item{
			{ID: "c", Kind: api.ItemHuman, Manual: "number(a, completed) > 1"},
			{ID: "d", Kind: api.ItemDecision, Free: true, Entry: one("c complete")},
			{ID: "r", Kind: api.ItemStage, Auto: true, Entry: []api.Sentry{on("", "d complete"), on("f > 3", "c manualStart")}, Repeat: "number(r, completed) < 5", Kids: []api.Item{
				{ID: "e", Kind: api.ItemCase, Free: true, Repeat: "number(e, completed) < 3"},
				{ID: "g", Kind: api.ItemHuman, Manual: "true"},
			}},
			{ID: "o", Kind: api.ItemMilestone, Entry: []api.Sentry{on("", "r complete"), on("", "c fault", "d complete")}, Repeat: "true", Required: "f > 3"},
		}, Table: []api.Item{{ID: "n", Kind: api.ItemHuman, Exit: one("o occur")}}},
	}}}
	if err := model.Check(m); err != api.OK {
		t.Fatal(err)
	}
	return m
}

func docs(n int) []api.Doc {
	return []api.Doc{{Path: "f#1", Value: api.Value{Kind: api.KindInt, Int: n}}}
}

// spelt is a case's instances as a text such as "p.1=4 p.1/a.1=7".
func spelt(c api.Case) string {
	var l []string
	for _, x := range c.Insts {
		l = append(l, x.Path+"="+strconv.Itoa(x.State))
	}
	return strings.Join(l, " ")
}

func wantEnd(t *testing.T, what string, m api.Model, c api.Case, l []api.Event, most int, insts string, g api.Gauge) api.Case {
	t.Helper()
	got, gauge, err := sem.Settle(m, c, l, most)
	if err != api.OK || gauge != g || spelt(got) != insts {
		t.Errorf("%s: error %d, %+v\n%s, want %+v\n%s", what, err, gauge, spelt(got), g, insts)
	}
	return got
}

func wantBudget(t *testing.T, what string, m api.Model, c api.Case, l []api.Event, most int) {
	t.Helper()
	got, g, err := sem.Settle(m, c, l, most)
	if err != api.ErrBudget || g != (api.Gauge{}) || !reflect.DeepEqual(got, api.Case{}) {
		t.Errorf("%s: error %d, %+v, %+v, want error %d alone", what, err, g, got, api.ErrBudget)
	}
}

// do is what a command makes of a case, with its events.
func do(t *testing.T, m api.Model, c api.Case, path, name string) (api.Case, []api.Event) {
	t.Helper()
	event, _ := model.EventOf(name)
	c, l, err := cascade.Do(m, c, path, event, api.MaxInst)
	if err != api.OK {
		t.Fatal(path, name, err)
	}
	c, more, err := rules.Renew(m, c, l, api.MaxInst)
	if err != api.OK {
		t.Fatal(path, name, err)
	}
	return c, append(l, more...)
}

// The document's examples of what happens by itself.
func TestP26_1Examples(t *testing.T) {
	a, b, x := api.Item{ID: "a", Kind: api.ItemHuman}, api.Item{ID: "b", Kind: api.ItemHuman, Entry: one("a complete")}, api.Item{ID: "x", Kind: api.ItemMilestone, Entry: []api.Sentry{on("true")}, Repeat: "true"}
	m := api.Model{ID: "m", Plan: api.Item{ID: "p", Kids: []api.Item{a}}}
	c, l, _ := cascade.Root(m, 1, 2)
	c = wantEnd(t, "a task without entry", m, c, l, 2, "p.1=4 p.1/a.1=4", api.Gauge{Rounds: 2, Moves: 1})
	c, l = do(t, m, c, "p.1/a.1", "complete")
	wantEnd(t, "the only one", m, c, l, 2, "p.1=7 p.1/a.1=7", api.Gauge{Rounds: 2, Moves: 1})
	m.Plan.Kids = []api.Item{a, b}
	c, l, _ = cascade.Root(m, 1, 3)
	c = wantEnd(t, "one that waits", m, c, l, 3, "p.1=4 p.1/a.1=4 p.1/b.1=1", api.Gauge{Rounds: 2, Moves: 1})
	c, l = do(t, m, c, "p.1/a.1", "complete")
	wantEnd(t, "what it waits for", m, c, l, 3, "p.1=4 p.1/a.1=7 p.1/b.1=4", api.Gauge{Rounds: 2, Moves: 1})
	b.Exit = one("a complete")
	m.Plan.Kids = []api.Item{a, b}
	c.Insts[2].Latches = []int{0, 0}
	wantEnd(t, "exit and entry", m, c, l, 3, "p.1=7 p.1/a.1=7 p.1/b.1=8", api.Gauge{Rounds: 2, Moves: 2})
	m.Plan.Kids = []api.Item{x}
	c, l, _ = cascade.Root(m, 1, 2)
	for _, most := range []int{math.MinInt, 0, 2, 3, api.MaxInst} {
		wantBudget(t, "without end", m, c, l, most)
	}
	c.Insts[1] = api.Inst{Path: "p.1/x.4611686018427387904", Item: "x", State: api.Available, Latches: []int{0}}
	wantBudget(t, "without end in one place", m, c, l, math.MaxInt)
}

// What comes of a command, and how many instances it takes.
func TestP26_1Office(t *testing.T) {
	m := office(t)
	c, l, _ := cascade.Root(m, 1, 5)
	c.Docs = docs(9)
	c = wantEnd(t, "the beginning", m, c, l, 5, "p.1=4 p.1/a.1=4 p.1/b.1=1 p.1/l.1=1 p.1/s.1=1", api.Gauge{Rounds: 2, Moves: 1})
	c, l = do(t, m, c, "p.1/a.1", "complete")
	for most := range 12 {
		wantBudget(t, "limit "+strconv.Itoa(most), m, c, l, most)
	}
	c = wantEnd(t, "one more of a, b and s", m, c, l, 12, "p.1=4 p.1/a.1=7 p.1/a.2=4 p.1/b.1=7 p.1/b.2=1 p.1/l.1=1 p.1/s.1=4 p.1/s.1/c.1=4 p.1/s.1/d.1=1 p.1/s.1/o.1=1 p.1/s.1/r.1=1 p.1/s.2=1", api.Gauge{Rounds: 4, Moves: 5})
	c, l = do(t, m, c, "p.1/s.1/c.1", "complete")
	c = wantEnd(t, "r within s", m, c, l, api.MaxInst, "p.1=4 p.1/a.1=7 p.1/a.2=4 p.1/b.1=7 p.1/b.2=1 p.1/l.1=1 p.1/s.1=4 p.1/s.1/c.1=7 p.1/s.1/d.1=7 p.1/s.1/o.1=7 p.1/s.1/o.2=1 p.1/s.1/r.1=7 p.1/s.1/r.1/e.1=7 p.1/s.1/r.1/e.2=8 p.1/s.1/r.1/g.1=8 p.1/s.1/r.2=1 p.1/s.2=1", api.Gauge{Rounds: 5, Moves: 10})
	c, l = do(t, m, c, "p.1/l.1", "occur")
	wantEnd(t, "exit of both", m, c, l, api.MaxInst, "p.1=4 p.1/a.1=7 p.1/a.2=4 p.1/b.1=7 p.1/b.2=1 p.1/l.1=7 p.1/s.1=8 p.1/s.1/c.1=7 p.1/s.1/d.1=7 p.1/s.1/o.1=7 p.1/s.1/o.2=8 p.1/s.1/r.1=7 p.1/s.1/r.1/e.1=7 p.1/s.1/r.1/e.2=8 p.1/s.1/r.1/g.1=8 p.1/s.1/r.2=8 p.1/s.2=8", api.Gauge{Rounds: 2, Moves: 4})
}

// Case after case of the office, as random commands have it.
func walked(t *testing.T, seed int64, hold func(r *rand.Rand, m api.Model, c api.Case, l []api.Event)) {
	t.Helper()
	r, m := rand.New(rand.NewSource(seed)), office(t)
	for range 60 {
		c, l, _ := cascade.Root(m, 1, 5)
		c.Docs = docs(r.Intn(9))
		for range 30 {
			hold(r, m, c, l)
			if t.Failed() {
				t.Fatalf("%v in %+v", l, c)
			}
			c, _, _ = sem.Settle(m, c, l, api.MaxInst)
			if states.Final(c.Insts[0].State) {
				break
			}
			l = nil
			for try := 0; len(l) == 0 && try < 40; try++ {
				c, l = commanded(r, m, c)
			}
		}
	}
}

// commanded is a case in which a random command has been executed, with its events; none if it was not possible.
func commanded(r *rand.Rand, m api.Model, c api.Case) (api.Case, []api.Event) {
	x := c.Insts[1+r.Intn(len(c.Insts)-1)]
	up, _ := tree.Find(c, tree.Up(x.Path))
	if x.Item == "s" && x.State == api.Active && r.Intn(3) == 0 {
		if next, l, err := cascade.Create(m, c, x.Path, "n", api.MaxInst); err == api.OK {
			return next, l
		}
	}
	events := []int{api.EvComplete, api.EvComplete, api.EvManual, api.EvManual, api.EvFault, api.EvReactivate, api.EvSuspend, api.EvResume, api.EvResume, api.EvTerminate, api.EvOccur, api.EvDisable}
	next, l, err := cascade.Do(m, c, x.Path, events[r.Intn(len(events))], api.MaxInst)
	if err != api.OK || up.State != api.Active || x.Item == "o" {
		return c, nil
	}
	next, more, err := rules.Renew(m, next, l, api.MaxInst)
	if err != api.OK {
		return c, nil
	}
	return next, append(l, more...)
}

func TestP26_1Rounds(t *testing.T) {
	rounds := map[int]int{}
	walked(t, 261, func(_ *rand.Rand, m api.Model, c api.Case, l []api.Event) {
		got, gauge, err := sem.Settle(m, c, l, api.MaxInst)
		want, g := c, api.Gauge{}
		for g.Rounds == 0 || len(l) > 0 {
			want, l, _ = round.Round(m, want, l, api.MaxInst)
			g.Rounds++
			for _, e := range l {
				if e.Event != api.EvCreate {
					g.Moves++
				}
			}
		}
		if err != api.OK || gauge != g || !tree.Same(got, want) {
			t.Errorf("error %d, %+v, %s, want %+v, %s", err, gauge, spelt(got), g, spelt(want))
		}
		rounds[g.Rounds]++
	})
	for n := 1; n <= 5; n++ {
		if rounds[n] < 10 {
			t.Error("only", rounds)
		}
	}
}

func TestP26_2Quiet(t *testing.T) {
	m := office(t)
	c, l, _ := cascade.Root(m, 1, 5)
	c.Docs = docs(9)
	quiet := func(what string, c api.Case, want bool) {
		t.Helper()
		if got := sem.Quiet(m, c); got != want {
			t.Errorf("%s: %v, %s", what, got, spelt(c))
		}
	}
	quiet("a new case", c, false)
	c, _, _ = sem.Settle(m, c, l, api.MaxInst)
	quiet("a settled case", c, true)
	with := func(path string, change func(x *api.Inst)) api.Case {
		c := tree.Copy(c)
		x, is := tree.Find(c, path)
		if !is {
			t.Fatal(path)
		}
		change(&x)
		return tree.Put(c, x)
	}
	quiet("an entry", with("p.1/b.1", func(x *api.Inst) { x.Latches[0] = 1 }), false)
	quiet("an exit", with("p.1/s.1", func(x *api.Inst) { x.Latches[1] = 1 }), false)
	quiet("one that has ended", with("p.1/b.1", func(x *api.Inst) { x.Latches[0], x.State = 1, api.Completed }), true)
	quiet("a stage that can complete", with("p.1/s.1", func(x *api.Inst) { x.State = api.Active }), true)
	quiet("a suspended case", with("p.1", func(x *api.Inst) { x.State = api.Suspended }), true)
	quiet("no case", api.Case{}, true)
	// An event that was not recorded may make a difference: the round that is asked about has none.
	completed, _, _ := cascade.Do(m, c, "p.1/a.1", api.EvComplete, 9)
	quiet("an unrecorded event", completed, true)
	// However many instances there are.
	many := tree.Copy(c)
	for k := range api.MaxInst {
		many.Insts = append(many.Insts, api.Inst{Path: "p.1/s." + strconv.Itoa(k+2), Item: "s", State: api.Completed, Latches: []int{0, 0, 0}})
	}
	quiet("many", many, true)
	many.Insts[2].Latches = []int{1}
	quiet("many, and one more", many, false)
	begun, l := do(t, m, c, "p.1/a.1", "complete")
	c, _, _ = sem.Settle(m, begun, l, api.MaxInst)
	quiet("one command later", c, true)
	quiet("a stage that is done", with("p.1/s.1/r.1", func(x *api.Inst) { x.State = api.Active }), false)
	m.Plan = api.Item{}
	quiet("no model", begun, true)
}

func TestP26_3Quiet(t *testing.T) {
	loud, created := 0, 0
	walked(t, 263, func(_ *rand.Rand, m api.Model, c api.Case, l []api.Event) {
		got, _, err := sem.Settle(m, c, l, api.MaxInst)
		if err != api.OK || !sem.Quiet(m, got) {
			t.Error("not quiet:", err, spelt(got))
		}
		if !sem.Quiet(m, c) {
			loud++
		}
		created += len(got.Insts) - len(c.Insts)
		again, g, err := sem.Settle(m, got, nil, len(got.Insts)-1)
		if err != api.OK || g != (api.Gauge{Rounds: 1}) || !tree.Same(again, got) {
			t.Error("not the same once more:", err, g, spelt(again))
		}
	})
	if loud < 60 || created < 300 {
		t.Error("only", loud, created)
	}
}

func TestP26_4Orders(t *testing.T) {
	over := 0
	walked(t, 264, func(r *rand.Rand, m api.Model, c api.Case, l []api.Event) {
		most := []int{api.MaxInst, len(c.Insts) + 1}[r.Intn(2)]
		want, gauge, wantErr := sem.Settle(m, c, l, most)
		for _, order := range [][]int{nil, {1}, {-1}, {r.Int(), r.Int(), -r.Int()}, {r.Intn(5), r.Intn(5), r.Intn(5), r.Intn(5)}} {
			got, g, err := settle.Settle(m, c, l, order, most)
			if err != wantErr || g != gauge || !tree.Same(got, want) {
				t.Errorf("order %v: error %d, %+v, %s, want error %d, %+v, %s", order, err, g, spelt(got), wantErr, gauge, spelt(want))
			}
		}
		if wantErr != api.OK {
			over++
		}
	})
	if over < 20 {
		t.Error("only", over)
	}
}
