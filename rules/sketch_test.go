package rules

import (
	"math/rand"
	"slices"
	"strconv"
	"testing"

	"dossier/api"
	"dossier/cascade"
	"dossier/latch"
	"dossier/model"
	"dossier/states"
	"dossier/tree"
)

func pick[T any](r *rand.Rand, l ...T) T { return l[r.Intn(len(l))] }

// truth is what the rules of random models come to.
var truth = map[string]bool{"": false, holds: true, fails: false, unknown: false}

// grown is an item with others below it, whose sentries wait for any of so many items.
func grown(r *rand.Rand, next *int, many, levels int) api.Item {
	i := api.Item{ID: "i" + strconv.Itoa(*next), Kind: pick(r, 0, 0, 0, 0, 1, 2, 3, 4, 5, 5, 6, 7)}
	*next++
	if i.ID == "i0" {
		i.Kind = api.ItemStage
	}
	works := i.Kind == api.ItemStage || model.Task(i.Kind)
	if works {
		i.Exit, i.Manual, i.Free = sides(r, i.ID, many), rule(r), i.Kind != api.ItemStage && r.Intn(4) == 0
	}
	if works || i.Kind == api.ItemMilestone {
		i.Entry, i.Required, i.Repeat = sides(r, i.ID, many), rule(r), rule(r)
	}
	if i.Kind == api.ItemTimer {
		i.After = 5
	}
	if i.ID == "i0" {
		i.Entry, i.Manual, i.Required, i.Repeat = nil, "", "", ""
	}
	for range 4 {
		if i.Kind == api.ItemStage && levels > 0 && *next < many {
			list := pick(r, &i.Kids, &i.Kids, &i.Kids, &i.Table)
			*list = append(*list, grown(r, next, many, levels-1))
		}
	}
	return i
}

func rule(r *rand.Rand) string { return pick(r, "", holds, holds, fails, unknown) }

func sides(r *rand.Rand, id string, many int) []api.Sentry {
	l := make([]api.Sentry, max(0, r.Intn(4)-1))
	for k := range l {
		l[k].If = rule(r)
		for range r.Intn(3) {
			if of := "i" + strconv.Itoa(r.Intn(many)); of != id {
				l[k].On = append(l[k].On, api.OnPart{Item: of, Event: pick(r, api.EvCreate, api.EvSuspend)})
			}
		}
		if l[k].On == nil && l[k].If == "" {
			l[k].If = holds
		}
	}
	return l
}

// walked calls hold for the cases of random models, as they come of random events.
func walked(t *testing.T, seed int64, times int, hold func(r *rand.Rand, m api.Model, c api.Case)) {
	t.Helper()
	r := rand.New(rand.NewSource(seed))
	for range times {
		next, many := 0, 2+r.Intn(11)
		m := api.Model{ID: "m", Files: []api.FileItem{{Name: "f", Kind: api.KindInt}}, Plan: grown(r, &next, many, 4)}
		c, _, err := cascade.Root(m, 1, api.MaxInst)
		if next == many && err != api.OK {
			t.Fatal(err, m)
		}
		c.Docs = cased("").Docs
		for range 40 {
			if err != api.OK || len(c.Insts) > 60 || states.Final(c.Insts[0].State) {
				break
			}
			hold(r, m, c)
			c = moved(r, m, c)
		}
	}
}

// moved is a case in which a random event has occurred, and has been recorded.
func moved(r *rand.Rand, m api.Model, c api.Case) api.Case {
	x := pick(r, c.Insts...)
	i, _ := model.Find(m, x.Item)
	l := states.Events(i.Kind, tree.Up(x.Path) == "", x.State)
	if len(l) == 0 || tree.Up(x.Path) == "" && r.Intn(8) > 0 {
		return c
	}
	event := pick(r, l...)
	if states.Rank(x.State) < states.Rank(api.Active) && slices.Contains(l, api.EvStart) && r.Intn(2) == 0 {
		event = api.EvStart
	}
	next, events, err := cascade.Do(m, c, x.Path, event, api.MaxInst)
	if err != api.OK {
		return c
	}
	return latch.Latch(m, next, events)
}

// satisfied tells whether one of some sentries is, by their latches.
func satisfied(l []api.Sentry, latches []int) bool {
	for k, s := range l {
		if latches[k] == 1<<len(s.On)-1 && (s.If == "" || truth[s.If]) {
			return true
		}
	}
	return false
}

// sketched is what an instance does by itself, as a text.
func sketched(m api.Model, c api.Case, x api.Inst) string {
	i, _ := model.Find(m, x.Item)
	if up := tree.Up(x.Path); up != "" {
		if !slices.ContainsFunc(c.Insts, func(y api.Inst) bool { return y.Path == up && y.State == api.Active }) {
			return ""
		}
	}
	exits := []int{api.Available, api.Enabled, api.Disabled, api.Active, api.Failed}
	if x.Path == "i0.1" {
		exits = []int{api.Active, api.Failed}
	}
	if slices.Contains(exits, x.State) && satisfied(i.Exit, x.Latches[len(i.Entry):]) {
		return "exit"
	}
	if x.Path == "i0.1" || x.State != api.Available || i.Kind == api.ItemListener || i.Kind == api.ItemTimer || len(i.Entry) > 0 && !satisfied(i.Entry, x.Latches) {
		return ""
	}
	event := "start"
	if truth[i.Manual] {
		event = "enable"
	}
	if i.Kind == api.ItemMilestone {
		event = "occur"
	}
	if len(i.Entry) > 0 && truth[i.Repeat] {
		event += " again"
	}
	return event
}

func TestP22_1Sketch(t *testing.T) {
	met := map[string]int{}
	walked(t, 221, 1200, func(_ *rand.Rand, m api.Model, c api.Case) {
		for _, x := range c.Insts {
			want := sketched(m, c, x)
			met[want]++
			wantFire(t, m, c, x.Path, want)
			i, _ := model.Find(m, x.Item)
			if Required(m, c, x.Path) != truth[i.Required] {
				t.Errorf("%s is required: %t", x.Path, !truth[i.Required])
			}
		}
		if t.Failed() {
			t.FailNow()
		}
	})
	for _, what := range []string{"", "exit", "start", "enable", "occur", "start again", "enable again", "occur again"} {
		if met[what] < 50 {
			t.Error(what, met)
		}
	}
}

func TestP22_2Sketch(t *testing.T) {
	came, over := 0, 0
	walked(t, 222, 600, func(r *rand.Rand, m api.Model, c api.Case) {
		var l []api.Event
		for range r.Intn(12) {
			l = append(l, api.Event{Path: pick(r, c.Insts...).Path, File: r.Intn(9) == 0, Event: pick(r, api.EvComplete, api.EvTerminate, api.EvOccur, api.EvExit, api.EvParentStop)})
		}
		want, paths := c, []string{}
		var events []api.Event
		for _, e := range l {
			x, _ := tree.Find(c, e.Path)
			i, _ := model.Find(m, x.Item)
			up, _ := tree.Find(c, tree.Up(e.Path))
			if ends := !e.File && (e.Event == api.EvComplete || e.Event == api.EvTerminate); ends && !slices.Contains(paths, e.Path) && len(i.Entry) == 0 && truth[i.Repeat] && up.State == api.Active {
				var more []api.Event
				want, more, _ = cascade.Create(m, want, up.Path, x.Item, 1000)
				paths, events = append(paths, e.Path), append(events, more...)
			}
		}
		most := len(c.Insts) + r.Intn(3)
		got, made, err := Renew(m, c, l, most)
		if len(want.Insts) > most {
			over++
			wantNothing(t, "over", got, made, err, api.ErrBudget)
			return
		}
		came += len(paths)
		if err != api.OK || !tree.Same(got, want) || !slices.Equal(made, events) {
			t.Fatalf("%v: error %d\n%+v\n%v, want\n%+v\n%v", l, err, got, made, want, events)
		}
	})
	if came < 500 || over < 50 {
		t.Error("only", came, over)
	}
}

// What an instance does by itself is possible, and increases its rank.
func TestP22_4Possible(t *testing.T) {
	fired := 0
	hold := func(m api.Model, c api.Case) {
		for _, x := range c.Insts {
			f, is := Fire(m, c, x.Path)
			if !is {
				continue
			}
			fired++
			x, _ = tree.Find(c, x.Path) // in a case made by hand, another one may be the first at this path
			i, _ := model.Find(m, x.Item)
			to, can := states.Next(i.Kind, tree.Up(x.Path) == "", x.State, x.Before, f.Event)
			if _, _, err := cascade.Do(m, c, f.Path, f.Event, 1000); !can || err != api.OK {
				t.Fatalf("%+v: error %d, in %+v", f, err, c)
			}
			if states.Rank(to) <= states.Rank(x.State) {
				t.Fatalf("%+v leads from %d to %d", f, x.State, to)
			}
		}
	}
	walked(t, 224, 600, func(r *rand.Rand, m api.Model, c api.Case) {
		hold(m, c)
		// In a case made by hand, too.
		c = tree.Copy(c)
		for range 4 {
			x := &c.Insts[r.Intn(len(c.Insts))]
			x.State, x.Before, x.Item = pick(r, x.State, r.Intn(11)), r.Intn(20), pick(r, x.Item, x.Item, "i0", "i1", "none")
			x.Path = pick(r, x.Path, x.Path, x.Path, x.Item+".1")
		}
		hold(m, c)
	})
	if fired < 5000 {
		t.Error("only", fired)
	}
}
