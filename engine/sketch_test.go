package engine_test

import (
	"cmp"
	"math/rand"
	"slices"
	"strconv"
	"strings"
	"testing"

	"dossier/api"
	"dossier/cascade"
	"dossier/casefile"
	"dossier/engine"
	"dossier/finish"
	"dossier/model"
	"dossier/rules"
	"dossier/sem"
	"dossier/states"
	"dossier/tree"
)

func pick[T any](r *rand.Rand, l ...T) T { return l[r.Intn(len(l))] }

// made is a random model. Each item is below one of the stages with a smaller number.
func made(r *rand.Rand) api.Model {
	items := make([]api.Item, 5+r.Intn(12))
	for k := range items {
		items[k] = api.Item{ID: "i" + strconv.Itoa(k), Kind: pick(r, 0, 0, 0, 0, 1, 1, 2, 3, 4, 5, 5, 6, 7, 7)}
	}
	items[0].Kind = api.ItemStage
	for k := range items {
		furnish(r, items, k)
	}
	for k := len(items) - 1; k > 0; k-- {
		up := &items[0]
		for s := range items[:k] {
			if items[s].Kind == api.ItemStage && r.Intn(3) == 0 {
				up = &items[s]
			}
		}
		list := pick(r, &up.Kids, &up.Kids, &up.Kids, &up.Table)
		*list = append(*list, items[k])
	}
	return api.Model{ID: "m", Roles: []string{"r1", "r2"}, Files: []api.FileItem{
		{Name: "f", Kind: api.KindInt, Multi: api.MultiAny, Refs: []string{"f.g"}, Kids: []api.FileItem{{Name: "g", Multi: api.MultiMaybe}}},
	}, Plan: items[0]}
}

// furnish gives the item of a number what its kind may have.
func furnish(r *rand.Rand, items []api.Item, number int) {
	i := &items[number]
	work := i.Kind == api.ItemStage || model.Task(i.Kind)
	if work {
		i.Exit = side(r, items, number, 5)
		i.Free, i.Auto = i.Kind != api.ItemStage && r.Intn(4) == 0, i.Kind == api.ItemStage && r.Intn(6) == 0
	}
	if i.Kind == api.ItemTimer {
		i.After = 1 + r.Intn(9)
	}
	if number == 0 {
		return
	}
	if work || i.Kind == api.ItemMilestone {
		i.Entry, i.Required, i.Repeat = side(r, items, number, 3), rule(r), rule(r)
	}
	if work {
		i.Manual = pick(r, "", "", "true", rule(r))
	}
	if work || i.Kind == api.ItemListener {
		i.Roles = pick(r, nil, nil, nil, []string{"r1"}, []string{"r2"}, []string{"r2", "r1"})
	}
}

func rule(r *rand.Rand) string {
	return pick(r, "", "", "true", "1 / 0 = 1", "f > 5", "count(f) > 1", "number(i1, completed) < 2", "number(i2, active) < 1", "number(i2, available) < 2", "number(i3, terminated) > 0")
}

// side makes sentries of the item of a number, often none.
func side(r *rand.Rand, items []api.Item, number, rare int) []api.Sentry {
	l := make([]api.Sentry, r.Intn(3)*min(1, r.Intn(rare)))
	for k := range l {
		l[k].If = pick(r, "", "", rule(r))
		for range 1 + r.Intn(2)*r.Intn(2) {
			of := pick(r, items...)
			event := pick(r, api.EvComplete, api.EvStart, api.EvComplete, api.EvStart, api.EvCreate, api.EvTerminate, api.EvFault, api.EvSuspend, api.EvExit, api.EvParentWait)
			if of.Kind >= api.ItemMilestone {
				event = api.EvOccur
			}
			if r.Intn(4) > 0 && of.ID != items[number].ID && model.Events(of.Kind, event) {
				l[k].On = append(l[k].On, api.OnPart{Item: of.ID, Event: event})
			}
		}
		if l[k].On == nil {
			l[k].On = []api.OnPart{{File: pick(r, "f", "f.g"), Event: pick(r, api.EvCreate, api.EvUpdate, api.EvUpdate, api.EvDelete, api.EvAddChild)}}
		}
	}
	return l
}

// someCommand is one that often can be done.
func someCommand(r *rand.Rand, m api.Model, c api.Case) api.Command {
	k := api.Command{Verb: pick(r, 3, 3, 3, 3, 3, 4, 5, 5, 6, 6), Case: 1, Role: pick(r, "", "", "r1", "r2", "none")}
	switch k.Verb {
	case api.VerbDo, api.VerbPlan:
		if l := chances(m, c, k.Verb); len(l) > 0 && r.Intn(5) > 0 {
			return pick(r, l...)
		}
		x := pick(r, c.Insts...)
		k.Path, k.Event = pick(r, x.Path, x.Path, x.Path, x.Path+"0"), 2+r.Intn(17)
		if k.Verb == api.VerbPlan {
			k.Event, k.Name = 0, "i"+strconv.Itoa(r.Intn(9))
		}
	case api.VerbFile:
		return someChange(r, c, k)
	case api.VerbTick:
		k.Int = pick(r, 1, 2, 3, 4, 5, 5, 5, 6, -1, 1<<40, 1<<40+1)
	}
	return k
}

// chances are commands that are not far from what can be done: each for a role that may.
func chances(m api.Model, c api.Case, verb int) []api.Command {
	var l []api.Command
	for _, x := range c.Insts {
		i, _ := model.Find(m, x.Item)
		plan := tree.Up(x.Path) == ""
		up, _ := tree.Find(c, tree.Up(x.Path))
		k := api.Command{Verb: verb, Case: 1, Role: append(i.Roles, "")[0], Path: x.Path}
		for _, event := range states.Events(i.Kind, plan, x.State) {
			// What ends the case is rare enough by itself.
			if k.Event = event; verb == api.VerbDo && engine.Asked(i.Kind, plan, event) && (plan || up.State == api.Active) && (!plan || event == api.EvSuspend || event == api.EvResume) {
				l = append(l, k)
			}
		}
		for n, d := range i.Table {
			if k.Event, k.Name, k.Role = 0, d.ID, append(d.Roles, []string{"", "none"}[n%2])[0]; verb == api.VerbPlan && (x.State == api.Active || x.State == api.Failed) {
				l = append(l, k)
			}
		}
	}
	return l
}

func someChange(r *rand.Rand, c api.Case, k api.Command) api.Command {
	k.Event, k.Name, k.Value = api.EvCreate, "f", pick(r, api.Value{}, number(r.Intn(9)), number(9), api.Value{Kind: api.KindBool})
	if len(c.Docs) == 0 || len(c.Docs) < 6 && r.Intn(3) == 0 {
		return k
	}
	k.Event, k.Path, k.Name = pick(r, 21, 22, 22, 23, 23, 24, 26, 27), pick(r, append(c.Docs, api.Doc{Path: "f#77"})...).Path, ""
	switch k.Event {
	case api.EvAddChild:
		k.Name, k.Value = "g", api.Value{}
	case api.EvAddRef, api.EvCutRef:
		k.Name = pick(r, c.Docs...).Path
	}
	return k
}

// defined is what a command does to a sound case, as the chapter has it.
func defined(m api.Model, c api.Case, k api.Command, most int) (api.Case, api.Gauge, api.Errno) {
	c = tree.Copy(c)
	var l []api.Event
	var err api.Errno
	switch k.Verb {
	case api.VerbDo:
		c, l, err = deed(m, c, k, most)
	case api.VerbPlan:
		c, l, err = planned(m, c, k, most)
	case api.VerbFile:
		x := c.Insts[0]
		docs, events, wrong := casefile.Do(m.Files, c.Docs, k.Event, k.Path, k.Name, k.Value)
		err = cmp.Or(when(k.Role == "none", api.ErrRole), when(x.State != api.Active, api.ErrState), wrong)
		c.Docs, l = docs, events
	case api.VerbTick:
		err = cmp.Or(when(k.Role == "none", api.ErrRole), when(k.Int < 0 || k.Int > 1<<40, api.ErrArg), when(c.Clock > 1<<61-k.Int, api.ErrFull))
		c.Clock += k.Int
		l = occur(m, c)
		err = cmp.Or(err, when(len(l) > 0 && len(c.Insts) > most, api.ErrBudget))
	default:
		err = api.ErrVerb
	}
	if err != api.OK {
		return api.Case{}, api.Gauge{}, err
	}
	return sem.Settle(m, c, l, most)
}

func when(is bool, err api.Errno) api.Errno {
	if is {
		return err
	}
	return api.OK
}

// stranger reports whether a role may not work on an item.
func stranger(i api.Item, role string) bool {
	return role == "none" || len(i.Roles) > 0 && !slices.Contains(i.Roles, role)
}

func deed(m api.Model, c api.Case, k api.Command, most int) (api.Case, []api.Event, api.Errno) {
	x, is := tree.Find(c, k.Path)
	if !is {
		return c, nil, api.ErrNone
	}
	i, _ := model.Find(m, x.Item)
	up, below := tree.Find(c, tree.Up(x.Path))
	_, can := states.Next(i.Kind, !below, x.State, x.Before, k.Event)
	asks := slices.Contains(strings.Fields(asked(i.Kind, !below)), model.EventName(k.Event))
	needed := i.Kind == api.ItemStage && k.Event == api.EvComplete && !finish.May(m, c, k.Path)
	err := cmp.Or(when(stranger(i, k.Role), api.ErrRole), when(!asks || !can || below && up.State != api.Active, api.ErrState), when(needed, api.ErrNeeded))
	if err != api.OK {
		return c, nil, err
	}
	c, l, err := cascade.Do(m, c, k.Path, k.Event, most)
	if err != api.OK {
		return c, nil, err
	}
	c, more, err := rules.Renew(m, c, l, most)
	return c, append(l, more...), err
}

func planned(m api.Model, c api.Case, k api.Command, most int) (api.Case, []api.Event, api.Errno) {
	x, _ := tree.Find(c, k.Path)
	s, _ := model.Find(m, x.Item)
	at := slices.IndexFunc(s.Table, func(i api.Item) bool { return i.ID == k.Name })
	if at < 0 {
		return c, nil, api.ErrNone
	}
	err := cmp.Or(when(x.State != api.Active, api.ErrState), when(stranger(s.Table[at], k.Role), api.ErrRole), when(len(c.Insts) >= most, api.ErrBudget))
	if err != api.OK {
		return c, nil, err
	}
	return cascade.Create(m, c, k.Path, k.Name, most)
}

// occur lets all timers occur that are due; in a sound case nothing else comes of it.
func occur(m api.Model, c api.Case) []api.Event {
	var l []api.Event
	for k, x := range c.Insts {
		up, _ := tree.Find(c, tree.Up(x.Path))
		if i, _ := model.Find(m, x.Item); i.Kind == api.ItemTimer && x.State == api.Available && up.State == api.Active && x.Due <= c.Clock {
			c.Insts[k].State = api.Completed
			l = append(l, api.Event{Path: x.Path, Event: api.EvOccur})
		}
	}
	return l
}

// sound reports whether a case is, as layer 35 has it. The paths are right in all cases of these tests.
func sound(m api.Model, c api.Case, most int) bool {
	if c.Model != m.ID || len(c.Insts) < 1 || len(c.Insts) > most || !casefile.Can(m.Files, c.Docs) || c.Clock < 0 || c.Clock > 1<<61 {
		return false
	}
	for k, x := range c.Insts {
		if !consistent(m, c, x) || k > 0 && tree.Order(c.Insts[k-1].Path, x.Path) >= 0 {
			return false
		}
	}
	return true
}

func consistent(m api.Model, c api.Case, x api.Inst) bool {
	item, n := tree.Last(x.Path)
	i, is := model.Find(m, item)
	up, below := tree.Find(c, tree.Up(x.Path))
	if !is || n < 1 || x.Item != item || !states.States(i.Kind, !below, x.State) {
		return false
	}
	if !below && x.Path != m.Plan.ID+".1" {
		return false
	}
	if below {
		s, _ := model.Find(m, up.Item)
		if !slices.ContainsFunc(slices.Concat(s.Kids, s.Table), func(i api.Item) bool { return i.ID == item }) {
			return false
		}
		if states.Final(up.State) && !states.Final(x.State) || up.State == api.Suspended && x.State == api.Active {
			return false
		}
	}
	if x.State == api.Suspended && (x.Before < 1 || x.Before == 9 || x.Before == 10 || x.Before > 18) || x.State != api.Suspended && x.Before != 0 {
		return false
	}
	sentries := slices.Concat(i.Entry, i.Exit)
	for k, s := range sentries {
		if len(x.Latches) != len(sentries) || x.Latches[k] < 0 || x.Latches[k] >= 1<<len(s.On) {
			return false
		}
	}
	return len(x.Latches) == len(sentries) && (x.Due == 0 || i.Kind == api.ItemTimer)
}

// walked calls hold for the cases of random models and some command on each; the case goes on with what that makes of it.
func walked(t *testing.T, seed int64, times int, hold func(r *rand.Rand, m api.Model, c api.Case, k api.Command, most int)) {
	t.Helper()
	r := rand.New(rand.NewSource(seed))
	for range times {
		m := made(r)
		c, _, err := engine.New(m, 1, nil, 60)
		if err == api.ErrBudget {
			continue
		}
		if err != api.OK {
			t.Fatal(err, m)
		}
		for range 40 {
			if r.Intn(30) == 0 {
				c.Clock = 1<<61 - r.Intn(9)
			}
			k := someCommand(r, m, c)
			hold(r, m, c, k, pick(r, 60, 60, 60, len(c.Insts)+r.Intn(5)-1))
			if t.Failed() {
				t.Fatalf("%+v in\n%s of\n%+v", k, spelt(c), m)
			}
			if next, _, err := engine.Do(m, c, k, nil, 60); err == api.OK {
				c = next
			}
			if states.Final(c.Insts[0].State) && r.Intn(3) == 0 {
				break
			}
		}
	}
}

func TestP29_1Sketch(t *testing.T) {
	r, over := rand.New(rand.NewSource(291)), 0
	for range 1000 {
		m, id, most := made(r), r.Intn(9), pick(r, 2, 5, 10, 60)
		c, l, wantErr := cascade.Root(m, id, most)
		want, gauge := api.Case{}, api.Gauge{}
		if wantErr == api.OK {
			want, gauge, wantErr = sem.Settle(m, c, l, most)
		}
		got, g, err := engine.New(m, id, []int{r.Int(), r.Intn(5)}, most)
		if err != wantErr || g != gauge || !tree.Same(got, want) {
			t.Fatalf("error %d, %+v, %s, want error %d, %+v, %s of %+v", err, g, spelt(got), wantErr, gauge, spelt(want), m)
		}
		if err == api.OK && (got.ID != id || !sound(m, got, most) || !sem.Quiet(m, got)) {
			t.Fatalf("%s of %+v", spelt(got), m)
		}
		if err != api.OK {
			over++
		}
	}
	if over < 200 || over > 800 {
		t.Error("one-sided:", over)
	}
}

func TestP29_2Sketch(t *testing.T) {
	met, rounds := map[[2]int]int{}, map[int]int{}
	walked(t, 292, 500, func(r *rand.Rand, m api.Model, c api.Case, k api.Command, most int) {
		want, gauge, wantErr := defined(m, c, k, most)
		got, g, err := engine.Do(m, c, k, nil, most)
		if err != wantErr || g != gauge || !tree.Same(got, want) {
			t.Errorf("most %d: error %d, %+v\n%s\n%v, want error %d, %+v\n%s\n%v", most, err, g, spelt(got), got.Docs, wantErr, gauge, spelt(want), want.Docs)
		}
		met[[2]int{k.Verb, int(err)}]++
		rounds[min(g.Rounds, 4)]++
	})
	for _, x := range [][2]int{{3, 0}, {3, 33}, {3, 40}, {3, 41}, {3, 42}, {3, 44}, {4, 0}, {4, 33}, {4, 40}, {4, 41}, {4, 42}, {5, 0}, {5, 22}, {5, 33}, {5, 40}, {5, 41}, {5, 42}, {6, 0}, {6, 1}, {6, 4}, {6, 41}, {6, 42}} {
		if met[x] < 8 {
			t.Errorf("only %d of %v", met[x], x)
		}
	}
	for n := 1; n <= 4; n++ {
		if rounds[n] < 15 {
			t.Error("only", rounds)
		}
	}
}

func TestP29_3Orders(t *testing.T) {
	long := 0
	walked(t, 293, 160, func(r *rand.Rand, m api.Model, c api.Case, k api.Command, most int) {
		want, gauge, wantErr := engine.Do(m, c, k, nil, most)
		long += max(0, gauge.Rounds-2)
		for range 4 {
			order := []int{r.Int(), -r.Int(), r.Intn(5), r.Intn(5), r.Intn(50)}[:1+r.Intn(5)]
			got, g, err := engine.Do(m, c, k, order, most)
			if err != wantErr || g != gauge || !tree.Same(got, want) {
				t.Errorf("order %v: error %d, %+v\n%s, want error %d, %+v\n%s", order, err, g, spelt(got), wantErr, gauge, spelt(want))
			}
		}
	})
	if long < 30 {
		t.Error("only", long)
	}
	for _, order := range orders() {
		m := office()
		m.Plan.Kids[5].Manual = ""
		c, g, err := engine.New(m, 1, order, 11)
		if want, gauge, wantErr := engine.New(m, 1, nil, 20); err != wantErr || g != gauge || !tree.Same(c, want) {
			t.Errorf("order %v: error %d, %+v, %s", order, err, g, spelt(c))
		}
	}
}

// What a command makes of a sound case is sound and quiet.
func TestP29_4Sound(t *testing.T) {
	done := 0
	walked(t, 294, 250, func(r *rand.Rand, m api.Model, c api.Case, k api.Command, most int) {
		if !sound(m, c, 60) {
			t.Error("not sound ahead of the command")
		}
		got, _, err := engine.Do(m, c, k, nil, most)
		if err != api.OK || len(c.Insts) > most {
			return
		}
		done++
		if !sound(m, got, most) || !sem.Quiet(m, got) {
			t.Errorf("sound %t, quiet %t: %s", sound(m, got, most), sem.Quiet(m, got), spelt(got))
		}
	})
	if done < 3000 {
		t.Error("only", done)
	}
}

// The same for sound cases that somebody altered, quiet or not.
func TestP29_4Altered(t *testing.T) {
	done, loud := 0, 0
	walked(t, 295, 60, func(r *rand.Rand, m api.Model, c api.Case, _ api.Command, most int) {
		c = altered(r, m, c)
		for try := 0; try < 15 && sound(m, c, most); try++ {
			got, _, err := engine.Do(m, c, someCommand(r, m, c), nil, most)
			if err != api.OK {
				continue
			}
			done++
			if !sem.Quiet(m, c) {
				loud++
			}
			if !sound(m, got, most) || !sem.Quiet(m, got) {
				t.Errorf("sound %t, quiet %t: %s after %s", sound(m, got, most), sem.Quiet(m, got), spelt(got), spelt(c))
			}
		}
	})
	if done < 2000 || loud < 500 {
		t.Error("only", done, loud)
	}
}

// altered is a case in which some instances are in other states.
func altered(r *rand.Rand, m api.Model, c api.Case) api.Case {
	c = tree.Copy(c)
	for range 1 + r.Intn(3) {
		x := &c.Insts[r.Intn(len(c.Insts))]
		i, _ := model.Find(m, x.Item)
		for k, s := range slices.Concat(i.Entry, i.Exit) {
			x.Latches[k] |= r.Intn(1 << len(s.On))
		}
		if r.Intn(3) > 0 {
			x.State, x.Before = 1+r.Intn(9), 0
		}
		if x.State == api.Suspended {
			x.Before = 1 + r.Intn(18)
		}
	}
	return c
}
