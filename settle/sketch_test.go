package settle_test

import (
	"math"
	"math/rand"
	"slices"
	"strconv"
	"testing"

	"dossier/api"
	"dossier/cascade"
	"dossier/model"
	"dossier/round"
	"dossier/rules"
	"dossier/sem"
	"dossier/settle"
	"dossier/states"
	"dossier/tree"
)

func pick[T any](r *rand.Rand, l ...T) T { return l[r.Intn(len(l))] }

// made is a random model. Each item is below one of the stages with a smaller number, and in a chain each waits for one with a smaller number, so that propagations are long.
func made(r *rand.Rand) api.Model {
	items := make([]api.Item, 4+r.Intn(12))
	for k := range items {
		items[k] = api.Item{ID: "i" + strconv.Itoa(k), Kind: pick(r, 0, 0, 0, 1, 2, 3, 4, 5, 5, 6)}
	}
	items[0].Kind = api.ItemStage
	chain := r.Intn(2) == 0
	for k := range items {
		ruled(r, items, k, chain)
	}
	for k := len(items) - 1; k > 0; k-- {
		up := &items[0]
		for s := range items[:k] {
			if items[s].Kind == api.ItemStage && r.Intn(3) == 0 {
				up = &items[s]
			}
		}
		list := pick(r, &up.Kids, &up.Kids, &up.Kids, &up.Kids, &up.Kids, &up.Table)
		*list = append(*list, items[k])
	}
	return api.Model{ID: "m", Files: []api.FileItem{{Name: "f", Kind: api.KindInt}}, Plan: items[0]}
}

// ruled gives the item of a number its sentries and rules.
func ruled(r *rand.Rand, items []api.Item, number int, chain bool) {
	i := &items[number]
	work := i.Kind == api.ItemStage || model.Task(i.Kind)
	if work && (!chain || r.Intn(6) == 0) {
		i.Exit = side(r, items, number)
	}
	if work {
		i.Free, i.Auto = i.Kind != api.ItemStage && (chain || r.Intn(2) == 0), i.Kind == api.ItemStage && r.Intn(4) == 0
	}
	if number == 0 || !work && i.Kind != api.ItemMilestone {
		return
	}
	i.Entry, i.Required, i.Repeat = side(r, items, number), rule(r), rule(r)
	if chain && number == 1 {
		i.Entry = nil
	} else if chain {
		of := items[max(1, number-1-r.Intn(2))]
		i.Entry = []api.Sentry{{On: []api.OnPart{{Item: of.ID, Event: likely(r, of.Kind)}}}}
	}
	if work && !chain {
		i.Manual = pick(r, "", "", rule(r))
	}
}

// likely is an event that an item of a kind often has.
func likely(r *rand.Rand, kind int) int {
	if kind >= api.ItemMilestone {
		return api.EvOccur
	}
	return pick(r, api.EvStart, api.EvComplete)
}

func rule(r *rand.Rand) string {
	return pick(r, "", "", fails, unknown, holds, "number(i1, completed) < 2", "number(i2, active) < 1", "number(i2, available) < 2", "number(i1, terminated) + number(i3, completed) > 0")
}

// side makes sentries of an item of a number.
func side(r *rand.Rand, items []api.Item, number int) []api.Sentry {
	l := make([]api.Sentry, r.Intn(3))
	for k := range l {
		l[k].If = pick(r, "", "", rule(r))
		for range 1 + r.Intn(2)*r.Intn(2) {
			of := pick(r, items...)
			event := pick(r, likely(r, of.Kind), api.EvCreate, api.EvEnable, api.EvFault, api.EvSuspend, api.EvExit, api.EvParentStop)
			if of.ID != items[number].ID && model.Events(of.Kind, event) {
				l[k].On = append(l[k].On, api.OnPart{Item: of.ID, Event: event})
			}
		}
		if l[k].On == nil && (l[k].If == "" || r.Intn(2) == 0) {
			l[k].On = []api.OnPart{{File: "f", Event: api.EvUpdate}}
		}
	}
	return l
}

// defined is a propagation as it is defined: round after round.
func defined(m api.Model, c api.Case, l []api.Event, most int) (api.Case, api.Gauge, api.Errno) {
	for g := (api.Gauge{}); ; {
		next, events, err := round.Round(m, c, l, most)
		if err != api.OK {
			return api.Case{}, api.Gauge{}, err
		}
		g.Rounds++
		if len(events) == 0 {
			return next, g, api.OK
		}
		for _, e := range events {
			if e.Event != api.EvCreate {
				g.Moves++
			}
		}
		if g.Moves > 8*len(next.Insts) { // only if new instances take the places of others
			return api.Case{}, api.Gauge{}, api.ErrBudget
		}
		c, l = next, events
	}
}

// ordered is a random order, with numbers of all sizes.
func ordered(r *rand.Rand) []int {
	order := make([]int, r.Intn(6))
	for k := range order {
		order[k] = pick(r, r.Intn(3), r.Intn(50), -r.Intn(50), math.MinInt, math.MaxInt)
	}
	return order
}

// wantOrders holds that a propagation ends in the same way for several orders, and that this is as it is defined.
func wantOrders(t *testing.T, r *rand.Rand, m api.Model, c api.Case, l []api.Event, most int) (api.Gauge, api.Errno) {
	t.Helper()
	want, gauge, wantErr := defined(m, c, l, most)
	for range 4 {
		order := ordered(r)
		got, g, err := settle.Settle(m, c, l, order, most)
		if err != wantErr || g != gauge || !tree.Same(got, want) {
			t.Fatalf("order %v: error %d, %+v\n%+v, want error %d, %+v\n%+v\nof %v in\n%+v of %+v", order, err, g, got.Insts, wantErr, gauge, want.Insts, l, c.Insts, m)
		}
	}
	return gauge, wantErr
}

// walked calls hold for the propagations that random commands cause in cases of random models.
func walked(t *testing.T, seed int64, times int, hold func(r *rand.Rand, m api.Model, c api.Case, l []api.Event)) {
	t.Helper()
	r := rand.New(rand.NewSource(seed))
	for range times {
		m := made(r)
		c, l, err := cascade.Root(m, 1, api.MaxInst)
		if err != api.OK {
			t.Fatal(err, m)
		}
		c.Docs = cased("").Docs
		for range 12 {
			hold(r, m, c, l)
			if c, _, err = sem.Settle(m, c, l, 40); err != api.OK || states.Final(c.Insts[0].State) {
				break
			}
			l = nil
			for try := 0; len(l) == 0 && try < 30; try++ {
				c, l = commanded(r, m, c)
			}
		}
	}
}

// commanded is a case in which a random command has been executed, with its events.
func commanded(r *rand.Rand, m api.Model, c api.Case) (api.Case, []api.Event) {
	x := pick(r, c.Insts...)
	i, _ := model.Find(m, x.Item)
	events := slices.DeleteFunc(states.Events(i.Kind, tree.Up(x.Path) == "", x.State), func(event int) bool {
		return event == api.EvEnable || event == api.EvStart || event >= api.EvExit && event <= api.EvParentGo
	})
	up, is := tree.Find(c, tree.Up(x.Path))
	switch {
	case r.Intn(15) == 0:
		return c, []api.Event{{Path: "f#1", File: true, Event: api.EvUpdate}}
	case r.Intn(9) == 0 && x.State == api.Active && len(i.Table) > 0:
		if next, l, err := cascade.Create(m, c, x.Path, pick(r, i.Table...).ID, 60); err == api.OK {
			return next, l
		}
	case len(events) == 0, is && up.State != api.Active, x.Path == "i0.1" && r.Intn(9) > 0:
		return c, nil
	}
	event := pick(r, append(events, api.EvComplete, api.EvComplete, api.EvOccur)...)
	next, l, err := cascade.Do(m, c, x.Path, event, 60)
	if err != api.OK {
		return c, nil
	}
	renewed, more, err := rules.Renew(m, next, l, 60)
	if err != api.OK {
		return c, nil
	}
	return renewed, append(l, more...)
}

func TestP25_1Sketch(t *testing.T) {
	rounds, over := map[int]int{}, 0
	walked(t, 251, 800, func(r *rand.Rand, m api.Model, c api.Case, l []api.Event) {
		g, err := wantOrders(t, r, m, c, l, pick(r, 40, 40, len(c.Insts)+r.Intn(6)-1))
		rounds[min(g.Rounds, 6)]++
		if err != api.OK {
			over++
		}
	})
	for n := 1; n <= 6; n++ {
		if rounds[n] < 20 {
			t.Error("only", rounds)
		}
	}
	if over < 100 {
		t.Error("only", over)
	}
}

// Cases and models made by hand: what has no place in a case that commands made, still ends in the same way for all orders.
func TestP25_2Odd(t *testing.T) {
	rounds, over := 0, 0
	walked(t, 252, 500, func(r *rand.Rand, m api.Model, c api.Case, l []api.Event) {
		m, c = bent(r, m, c)
		g, err := wantOrders(t, r, m, c, l, 40)
		rounds += g.Rounds
		if err != api.OK {
			over++
		}
	})
	if rounds < 3000 || over < 50 {
		t.Error("only", rounds, over)
	}
}

// The most moves and rounds that there may be, also in cases and models made by hand.
func TestP25_3Bounds(t *testing.T) {
	many := 0
	walked(t, 253, 300, func(r *rand.Rand, m api.Model, c api.Case, l []api.Event) {
		if r.Intn(3) == 0 {
			m, c = bent(r, m, c)
		}
		most := pick(r, 40, len(c.Insts))
		_, g, err := settle.Settle(m, c, l, ordered(r), most)
		if g.Moves > 8*most || g.Rounds > g.Moves+1 || g.Rounds > 8*most+1 || g.Rounds < 1 && err == api.OK {
			t.Errorf("%+v, at most %d instances", g, most)
		}
		many += g.Moves
	})
	if many < 700 {
		t.Error("only", many)
	}
}

// bent is a case and its model with a few things that may not be.
func bent(r *rand.Rand, m api.Model, c api.Case) (api.Model, api.Case) {
	m.Plan, _ = model.Find(m, m.Plan.ID)
	c = tree.Copy(c)
	for range r.Intn(3) {
		rename(r, &m.Plan, pick(r, "i2", "i3", "i4"), pick(r, "", "i2/i3", "i1/i4", "i3.1", "i1"))
	}
	for range r.Intn(6) {
		k := r.Intn(len(c.Insts))
		x := &c.Insts[k]
		switch r.Intn(9) {
		case 0:
			x.State, x.Before = r.Intn(12)-1, r.Intn(20)
		case 1:
			x.State = pick(r, api.Available, api.Active, api.Failed)
		case 2:
			x.Item = pick(r, "i0", "i1", "i2", "i3", "none", "")
		case 3:
			x.Path = tree.Up(x.Path) + "/" + x.Item + "." + strconv.Itoa(pick(r, 1<<62, 1<<62, 1<<62-1, math.MaxInt))
		case 4:
			x.Path = pick(r, "", "/", "/i1.1", "i0.1/i1.1/i1.1", c.Insts[r.Intn(len(c.Insts))].Path)
		case 5:
			x.Path = tree.Path(pick(r, c.Insts...).Path, x.Item, 1+r.Intn(2))
		case 6:
			x.Latches = pick(r, nil, []int{-1, 7}, []int{-1}, []int{3, 3, 3})
		case 7:
			j := r.Intn(len(c.Insts))
			c.Insts[k], c.Insts[j] = c.Insts[j], c.Insts[k]
		case 8:
			extra := tree.Copy(api.Case{Insts: c.Insts[k : k+1]}).Insts[0]
			extra.Path = pick(r, x.Path, tree.Path(pick(r, c.Insts...).Path, x.Item, 1), tree.Path(tree.Up(x.Path), x.Item, 1<<62))
			c.Insts = slices.Insert(c.Insts, r.Intn(len(c.Insts)), extra)
		}
	}
	return m, c
}

// rename gives items with an ID another one, wherever it stands.
func rename(r *rand.Rand, i *api.Item, from, to string) {
	if i.ID == from {
		i.ID = to
	}
	for _, side := range [][]api.Sentry{i.Entry, i.Exit} {
		for _, s := range side {
			for k := range s.On {
				if s.On[k].Item == from {
					s.On[k].Item = to
				}
			}
		}
	}
	for _, l := range [][]api.Item{i.Kids, i.Table} {
		for k := range l {
			rename(r, &l[k], from, to)
		}
	}
}
