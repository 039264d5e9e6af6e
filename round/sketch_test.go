package round_test

import (
	"math/rand"
	"slices"
	"strconv"
	"strings"
	"testing"

	"dossier/api"
	"dossier/cascade"
	"dossier/finish"
	"dossier/latch"
	"dossier/model"
	"dossier/round"
	"dossier/rules"
	"dossier/states"
	"dossier/tree"
)

func pick[T any](r *rand.Rand, l ...T) T { return l[r.Intn(len(l))] }

// made is a random model. Each item is below one of the stages with a smaller number.
func made(r *rand.Rand) api.Model {
	items := make([]api.Item, 3+r.Intn(10))
	for k := range items {
		items[k] = api.Item{ID: "i" + strconv.Itoa(k), Kind: pick(r, 0, 0, 0, 0, 1, 2, 3, 4, 5, 5, 6, 7)}
	}
	items[0].Kind = api.ItemStage
	var stages []int
	for k := range items {
		i := &items[k]
		work := i.Kind == api.ItemStage || model.Task(i.Kind)
		if work {
			stages = append(stages, k)
			i.Exit, i.Free, i.Auto = side(r, items, k), i.Kind != api.ItemStage && r.Intn(2) == 0, i.Kind == api.ItemStage && r.Intn(4) == 0
		}
		if k > 0 && (work || i.Kind == api.ItemMilestone) {
			i.Entry, i.Required, i.Repeat = side(r, items, k), rule(r), rule(r)
		}
		if k > 0 && work {
			i.Manual = pick(r, "", "", rule(r))
		}
		if i.Kind == api.ItemTimer {
			i.After = 5
		}
	}
	for k := len(items) - 1; k > 0; k-- {
		up := &items[0]
		for _, s := range stages {
			if s < k && items[s].Kind == api.ItemStage && r.Intn(2) == 0 {
				up = &items[s]
			}
		}
		list := pick(r, &up.Kids, &up.Kids, &up.Kids, &up.Kids, &up.Kids, &up.Table)
		*list = append(*list, items[k])
	}
	return api.Model{ID: "m", Files: []api.FileItem{{Name: "f", Kind: api.KindInt}}, Plan: items[0]}
}

func rule(r *rand.Rand) string {
	return pick(r, "", "", fails, unknown, holds, "number(i1, completed) < 2", "number(i2, active) < 1", "number(i2, available) < 2")
}

// side makes sentries of an item of a number.
func side(r *rand.Rand, items []api.Item, number int) []api.Sentry {
	l := make([]api.Sentry, r.Intn(3))
	for k := range l {
		l[k].If = pick(r, "", "", rule(r))
		for range 1 + r.Intn(2)*r.Intn(2) {
			of, event := pick(r, items...), pick(r, api.EvCreate, api.EvEnable, api.EvStart, api.EvStart, api.EvComplete, api.EvComplete, api.EvExit, api.EvOccur, api.EvOccur, api.EvFault, api.EvSuspend)
			if of.ID != items[number].ID && model.Events(of.Kind, event) {
				l[k].On = append(l[k].On, api.OnPart{Item: of.ID, Event: event})
			}
		}
		if l[k].On == nil {
			l[k].On = []api.OnPart{{File: "f", Event: api.EvUpdate}}
		}
	}
	return l
}

// walked calls hold for each round of the propagations that random commands cause in cases of random models.
func walked(t *testing.T, seed int64, times int, hold func(r *rand.Rand, m api.Model, c api.Case, l []api.Event)) {
	t.Helper()
	r := rand.New(rand.NewSource(seed))
	for range times {
		m := made(r)
		c, l, err := cascade.Root(m, 1, api.MaxInst)
		if err != api.OK {
			t.Fatal(err, m)
		}
		c.Docs = cased("").Docs
		for range 25 {
			hold(r, m, c, l)
			if t.Failed() {
				t.Fatalf("%v in %+v of %+v", l, c, m)
			}
			if c, l, err = round.Round(m, c, l, 40); err != api.OK || states.Final(c.Insts[0].State) {
				break
			}
			for try := 0; len(l) == 0 && try < 30; try++ {
				c, l = commanded(r, m, c)
			}
		}
	}
}

// commanded is a case in which a random command has been executed, with its events.
func commanded(r *rand.Rand, m api.Model, c api.Case) (api.Case, []api.Event) {
	x := pick(r, c.Insts...)
	i, _ := model.Find(m, x.Item)
	events := slices.DeleteFunc(states.Events(i.Kind, tree.Up(x.Path) == "", x.State), func(event int) bool {
		return event == api.EvEnable || event == api.EvStart || event >= api.EvExit && event <= api.EvParentGo
	})
	up, is := tree.Find(c, tree.Up(x.Path))
	switch {
	case r.Intn(20) == 0:
		return c, []api.Event{{Path: "f#1", File: true, Event: api.EvUpdate}}
	case r.Intn(9) == 0 && x.State == api.Active && len(i.Table) > 0:
		if next, l, err := cascade.Create(m, c, x.Path, pick(r, i.Table...).ID, 60); err == api.OK {
			return next, l
		}
	case len(events) == 0, is && up.State != api.Active, x.Path == "i0.1" && r.Intn(9) > 0:
		return c, nil
	}
	event := pick(r, append(events, api.EvComplete)...)
	next, l, err := cascade.Do(m, c, x.Path, event, 60)
	if err != api.OK {
		return c, nil
	}
	renewed, more, err := rules.Renew(m, next, l, 60)
	if err != api.OK {
		return c, nil
	}
	return renewed, append(l, more...)
}

// A sketch is a round, a step after the other.
type sketch struct {
	c      api.Case
	events []api.Event
	over   bool
	done   [6]int // how many events came of each step; 1 is for those that had just begun
}

// then takes what a call returned; one that was not possible makes no difference.
func (s *sketch) then(step int, c api.Case, l []api.Event, err api.Errno) bool {
	s.over = s.over || err == api.ErrBudget
	if err != api.OK || s.over {
		return false
	}
	s.c, s.events = c, append(s.events, l...)
	s.done[step] += len(l)
	return true
}

// exiting tells whether something that a path is below has a firing that is an exit.
func exiting(m api.Model, c api.Case, path string) bool {
	for path = tree.Up(path); path != ""; path = tree.Up(path) {
		if f, _ := rules.Fire(m, c, path); f.Event == api.EvExit {
			return true
		}
	}
	return false
}

// fired is what each instance does by itself.
func fired(m api.Model, c api.Case) []api.Firing {
	var l []api.Firing
	for _, x := range c.Insts {
		if f, is := rules.Fire(m, c, x.Path); is && !exiting(m, c, x.Path) {
			l = append(l, f)
		}
	}
	return l
}

func sketched(m api.Model, c api.Case, l []api.Event, most int) *sketch {
	s := &sketch{c: c}
	for _, e := range l {
		s.c = latch.Latch(m, s.c, []api.Event{e})
	}
	for _, f := range fired(m, s.c) {
		next, l, err := cascade.Do(m, s.c, f.Path, f.Event, most)
		if s.then(2, next, l, err) && f.Event != api.EvExit {
			s.c = latch.Clear(m, s.c, f.Path)
		}
		if err == api.OK && f.Again {
			item, _ := tree.Last(f.Path)
			next, l, err = cascade.Create(m, s.c, tree.Up(f.Path), item, most)
			s.then(2, next, l, err)
		}
	}
	next, more, err := rules.Renew(m, s.c, s.events, most)
	s.then(3, next, more, err)
	behind := len(s.events)
	for _, path := range finish.All(m, s.c) {
		began := false
		for _, e := range s.events[:behind] {
			began = began || e == api.Event{Path: path, Event: api.EvStart}
		}
		if !began {
			next, l, err := cascade.Do(m, s.c, path, api.EvComplete, most)
			s.then(4, next, l, err)
		} else {
			s.done[1]++
		}
	}
	next, more, err = rules.Renew(m, s.c, s.events[behind:], most)
	s.then(5, next, more, err)
	return s
}

func TestP24_1Sketch(t *testing.T) {
	met, below := map[api.Firing]int{}, 0
	walked(t, 241, 800, func(_ *rand.Rand, m api.Model, c api.Case, l []api.Event) {
		c = latch.Latch(m, c, l)
		got := round.Firings(m, c)
		if want := fired(m, c); !slices.Equal(got, want) {
			t.Errorf("%v, want %v", got, want)
		}
		for _, x := range c.Insts {
			f, is := rules.Fire(m, c, x.Path)
			if is && !slices.Contains(got, f) {
				below++
			}
			met[api.Firing{Event: f.Event, Again: f.Again}]++
		}
	})
	if len(met) != 8 || below < 50 {
		t.Error(met, below)
	}
	for f, n := range met {
		if n < 30 {
			t.Error(f, met)
		}
	}
}

func TestP24_2Sketch(t *testing.T) {
	var done [6]int
	over := 0
	walked(t, 242, 700, func(r *rand.Rand, m api.Model, c api.Case, l []api.Event) {
		most := pick(r, api.MaxInst, api.MaxInst, len(c.Insts)+r.Intn(4)-1)
		s := sketched(m, c, l, most)
		got, events, err := round.Round(m, c, l, most)
		if s.over {
			over++
			wantBudget(t, "over", got, events, err)
			return
		}
		if err != api.OK || !slices.Equal(events, s.events) || !tree.Same(got, s.c) {
			t.Errorf("error %d\n%s\n%+v, want\n%s\n%+v", err, spelt(events), got.Insts, spelt(s.events), s.c.Insts)
		}
		for k := range done {
			done[k] += s.done[k]
		}
	})
	if slices.Min(done[1:]) < 50 || over < 50 {
		t.Error("only", done, over)
	}
}

// Each event but EvCreate increases the rank of its instance, and those of a round tell all that changed in it.
func TestP24_3Rank(t *testing.T) {
	moves := map[int]int{}
	walked(t, 243, 500, func(_ *rand.Rand, m api.Model, c api.Case, l []api.Event) {
		got, events, err := round.Round(m, c, l, api.MaxInst)
		if err != api.OK {
			t.Error(err)
		}
		now := tree.Copy(c)
		for _, e := range events {
			x, is := tree.Find(now, e.Path)
			i, _ := model.Find(m, x.Item)
			to, can := states.Next(i.Kind, tree.Up(e.Path) == "", x.State, x.Before, e.Event)
			switch {
			case e.File, is == (e.Event == api.EvCreate):
				t.Errorf("%+v is none of its instance", e)
			case e.Event == api.EvCreate:
				x.Path, to = e.Path, api.Available
				x.Item, _ = tree.Last(e.Path)
			case !can, states.Rank(to) <= states.Rank(x.State):
				t.Errorf("%+v leads from %d to %d", e, x.State, to)
			}
			x.State, x.Before = to, 0
			now = tree.Put(now, x)
			moves[e.Event]++
		}
		same := func(x, y api.Inst) bool {
			return x.Path == y.Path && x.Item == y.Item && x.State == y.State && x.Before == y.Before
		}
		if !slices.EqualFunc(now.Insts, got.Insts, same) {
			t.Errorf("%s makes %+v, want %+v", spelt(events), now.Insts, got.Insts)
		}
	})
	for _, event := range []int{api.EvCreate, api.EvEnable, api.EvStart, api.EvComplete, api.EvExit, api.EvParentStop, api.EvOccur} {
		if moves[event] < 100 {
			t.Error(moves)
		}
	}
	if len(moves) != 7 {
		t.Error(moves)
	}
}

// Numbers, states and paths of cases made by hand are nothing that a round ends badly for.
func TestP24_2Odd(t *testing.T) {
	var l []api.Event
	for event := -1; event < 30; event++ {
		for _, path := range strings.Fields("i0.1 i0.1/i1.1 i0.1/i1.2/i2.1 i1.1 x f#1 \xff") {
			l = append(l, api.Event{Path: path, Event: event}, api.Event{Path: path, File: true, Event: event})
		}
	}
	moves := 0
	walked(t, 244, 200, func(r *rand.Rand, m api.Model, c api.Case, _ []api.Event) {
		c = tree.Copy(c)
		for range 3 {
			x := &c.Insts[r.Intn(len(c.Insts))]
			x.State, x.Before, x.Item = pick(r, x.State, r.Intn(12)-1), r.Intn(20), pick(r, x.Item, x.Item, "i0", "i1", "none", "")
			x.Path = pick(r, x.Path, x.Path, x.Path, x.Item+".1", "i0.1/i1.1/i1.1", "", "i0.1/i1."+strconv.Itoa(1<<62))
			x.Latches = pick(r, x.Latches, x.Latches, nil, []int{-1, 7})
		}
		for _, some := range [][]api.Event{nil, l, {pick(r, l...)}} {
			got, events, err := round.Round(m, c, some, 60)
			again, _, _ := round.Round(m, c, some, 60)
			moves += len(events)
			if err != api.OK && err != api.ErrBudget || !tree.Same(got, again) {
				t.Errorf("error %d", err)
			}
		}
	})
	if moves < 4000 {
		t.Error("only", moves)
	}
}
