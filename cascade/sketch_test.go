package cascade

import (
	"maps"
	"math/rand"
	"slices"
	"strconv"
	"testing"

	"dossier/api"
	"dossier/model"
	"dossier/states"
	"dossier/tree"
)

// A sketch is a case as a map of instances, of which each looks for its kids by itself.
type sketch struct {
	m      api.Model
	clock  int
	insts  map[string]api.Inst
	events []api.Event
}

func sketched(m api.Model, c api.Case) *sketch {
	s := &sketch{m: m, clock: c.Clock, insts: map[string]api.Inst{}}
	for _, x := range c.Insts {
		s.insts[x.Path] = x
	}
	return s
}

func (s *sketch) sorted() []string { return slices.SortedFunc(maps.Keys(s.insts), tree.Order) }

func (s *sketch) kids(path string) []string {
	return slices.DeleteFunc(s.sorted(), func(p string) bool { return p == path || tree.Up(p) != path })
}

// move moves one instance alone.
func (s *sketch) move(path string, event int) api.Errno {
	x, is := s.insts[path]
	items := model.Items(s.m)
	at := slices.IndexFunc(items, func(i api.Item) bool { return i.ID == x.Item })
	if !is || at < 0 {
		return api.ErrNone
	}
	to, is := states.Next(items[at].Kind, tree.Up(path) == "", x.State, x.Before, event)
	if !is {
		return api.ErrState
	}
	was := x.State
	x.State, x.Before = to, 0
	if to == api.Suspended {
		x.Before = was
	}
	if event == api.EvParentWait {
		x.Before += 10
	}
	s.insts[path] = x
	s.events = append(s.events, api.Event{Path: path, Event: event})
	return api.OK
}

func (s *sketch) do(path string, event int) api.Errno {
	if err := s.move(path, event); err != api.OK {
		return err
	}
	i, _ := model.Find(s.m, s.insts[path].Item)
	if (event == api.EvStart || event == api.EvManual) && i.Kind == api.ItemStage {
		for _, kid := range i.Kids {
			s.create(path, kid.ID)
		}
	}
	if (event == api.EvStart || event == api.EvManual) && i.Free {
		return s.do(path, api.EvComplete)
	}
	switch s.insts[path].State {
	case api.Completed, api.Terminated, api.Closed:
		s.spread(path, api.EvParentStop)
	case api.Suspended:
		s.spread(path, api.EvParentWait)
	}
	if event == api.EvResume {
		s.resume(path)
	}
	return api.OK
}

func (s *sketch) spread(path string, event int) {
	for _, p := range s.sorted() {
		if len(p) > len(path) && p[:len(path)+1] == path+"/" {
			s.move(p, event)
		}
	}
}

func (s *sketch) resume(path string) {
	for _, kid := range s.kids(path) {
		if s.move(kid, api.EvParentGo) == api.OK {
			s.resume(kid)
		}
	}
}

func (s *sketch) create(up, item string) api.Errno {
	i, is := model.Find(s.m, item)
	if _, above := s.insts[up]; !above || !is {
		return api.ErrNone
	}
	n := 1
	for _, kid := range s.kids(up) {
		if of, last := tree.Last(kid); of == item {
			n = max(n, last+1)
		}
	}
	x := api.Inst{Path: up + "/" + item + "." + strconv.Itoa(n), Item: item, State: api.Available, Latches: append(make([]int, len(i.Entry)), make([]int, len(i.Exit))...)}
	if i.Kind == api.ItemTimer {
		x.Due = s.clock + i.After
	}
	s.insts[x.Path] = x
	s.events = append(s.events, api.Event{Path: x.Path, Event: api.EvCreate})
	return api.OK
}

// shown is the sketch as a case.
func (s *sketch) shown(c api.Case) api.Case {
	c.Insts = nil
	for _, path := range s.sorted() {
		c.Insts = append(c.Insts, s.insts[path])
	}
	return c
}

func pick[T any](r *rand.Rand, l ...T) T { return l[r.Intn(len(l))] }

// A maker makes models.
type maker struct {
	*rand.Rand
	next int // the number of the next item
}

func (k *maker) model() api.Model {
	m := api.Model{ID: "m", Plan: k.item(api.ItemStage, 3)}
	m.Plan.Entry, m.Plan.Manual, m.Plan.Repeat = nil, "", ""
	return m
}

func (k *maker) item(kind, levels int) api.Item {
	i := api.Item{ID: "i" + strconv.Itoa(k.next), Kind: kind}
	k.next++
	task, stage := model.Task(kind), kind == api.ItemStage
	if task || stage || kind == api.ItemMilestone {
		i.Entry, i.Repeat = k.sentries(), pick(k.Rand, "", "true")
	}
	if task || stage {
		i.Exit, i.Manual = k.sentries(), pick(k.Rand, "", "true")
	}
	i.Free = task && k.Intn(3) == 0
	if kind == api.ItemTimer {
		i.After = 1 + k.Intn(9)
	}
	for range levels + k.Intn(3) {
		if stage && levels > 0 {
			list := pick(k.Rand, &i.Kids, &i.Kids, &i.Table)
			*list = append(*list, k.item(pick(k.Rand, 0, 0, 0, 1, 2, 3, 4, 5, 6, 7), levels-1))
		}
	}
	return i
}

func (k *maker) sentries() []api.Sentry {
	l := make([]api.Sentry, k.Intn(3))
	for n := range l {
		l[n].If = "true"
	}
	return l
}

// choice is an instance of a case, or none, and an event that is possible for it, or any. Those that go on are preferred.
func choice(r *rand.Rand, m api.Model, c api.Case) (string, int) {
	if r.Intn(30) == 0 {
		return pick(r, "", "i0", "i0.2", "i0.1/i1.99"), r.Intn(20)
	}
	x := pick(r, c.Insts...)
	for range 9 {
		if states.Final(x.State) || x.Path == "i0.1" && r.Intn(20) > 0 {
			x = pick(r, c.Insts...)
		}
	}
	i, _ := model.Find(m, x.Item)
	if l := states.Events(i.Kind, tree.Up(x.Path) == "", x.State); len(l) > 0 && r.Intn(5) > 0 {
		return x.Path, pick(r, l...)
	}
	return x.Path, pick(r, api.EvStart, api.EvStart, api.EvManual, api.EvResume, r.Intn(30)-1)
}

// scratched is a case of which one instance has other latches or, if it is to become odd, something else that none has.
func scratched(r *rand.Rand, c api.Case, odd bool) api.Case {
	x := pick(r, c.Insts...)
	for k := range x.Latches {
		x.Latches[k] = r.Intn(4)
	}
	if odd {
		x.Item = pick(r, x.Item, x.Item, x.Item, x.Item, "none", "i1", "i2")
		x.State, x.Before = pick(r, x.State, x.State, r.Intn(11)), pick(r, x.Before, r.Intn(20))
		x.Path = pick(r, x.Path, x.Path, x.Path, x.Path+"/i1.1", x.Path+"/i2.7/i3.1")
	}
	return tree.Put(c, x)
}

// Walks through random models are held against the sketch.
func TestP19_1Sketch(t *testing.T) {
	r := rand.New(rand.NewSource(191))
	met, events := map[api.Errno]int{}, map[int]int{}
	for n := range 400 {
		m := (&maker{Rand: r}).model()
		c, l, err := Root(m, n, api.MaxInst)
		if err != api.OK || len(l) != len(c.Insts) {
			t.Fatal(err)
		}
		start := c
		for range 60 {
			if states.Final(c.Insts[0].State) && r.Intn(5) > 0 {
				c = start
			}
			c = scratched(r, c, n%3 == 0)
			c.Clock += r.Intn(3)
			s, most := sketched(m, c), pick(r, api.MaxInst, api.MaxInst, len(c.Insts)+r.Intn(6)-1)
			path, event := choice(r, m, c)
			got, l, err := c, []api.Event{}, api.OK
			var want api.Errno
			if item := "i" + strconv.Itoa(r.Intn(12)); r.Intn(15) == 0 {
				want = s.create(path, item)
				got, l, err = Create(m, c, path, item, most)
			} else {
				want = s.do(path, event)
				got, l, err = Do(m, c, path, event, most)
			}
			if want == api.OK && len(s.insts) > most {
				want = api.ErrBudget
			}
			met[want]++
			if want != api.OK {
				wantError(t, "walk "+strconv.Itoa(n), got, l, err, want)
				continue
			}
			wantDone(t, "walk "+strconv.Itoa(n), got, l, err, s.shown(c), s.events)
			if t.Failed() {
				t.Fatalf("event %d of %s in %+v", event, path, c)
			}
			for _, e := range l {
				events[e.Event]++
			}
			if len(got.Insts) < 100 {
				c = got
			}
		}
	}
	for event := api.EvCreate; event <= api.EvClose; event++ {
		if events[event] < 30 {
			t.Error("events:", events)
		}
	}
	if met[api.OK] < 5000 || met[api.ErrNone] < 500 || met[api.ErrState] < 2000 || met[api.ErrBudget] < 300 {
		t.Error("errors:", met)
	}
}

// All below what has ended has ended, and the instances are in order.
func TestP19_4Ended(t *testing.T) {
	r := rand.New(rand.NewSource(194))
	ended := 0
	for n := range 300 {
		m := (&maker{Rand: r}).model()
		c, _, err := Root(m, n, api.MaxInst)
		if err != api.OK {
			t.Fatal(err)
		}
		start := c
		for range 80 {
			if states.Final(c.Insts[0].State) && r.Intn(5) > 0 {
				c = start
			}
			path, event := choice(r, m, c)
			x, _ := tree.Find(c, path)
			var next api.Case
			if i, _ := model.Find(m, x.Item); x.State == api.Active && i.Kind == api.ItemStage && len(i.Table) > 0 && r.Intn(3) == 0 {
				next, _, err = Create(m, c, path, pick(r, i.Table...).ID, api.MaxInst)
			} else if path != "i0.1" || r.Intn(5) == 0 {
				next, _, err = Do(m, c, path, event, api.MaxInst)
			} else {
				continue
			}
			if err != api.OK {
				continue
			}
			c = next
			ended += wantSound(t, c)
		}
	}
	if ended < 2000 {
		t.Error("only", ended)
	}
}

// wantSound holds what is promised of each case, and counts the instances below those that have ended.
func wantSound(t *testing.T, c api.Case) (below int) {
	t.Helper()
	for k, x := range c.Insts {
		if k > 0 && tree.Order(c.Insts[k-1].Path, x.Path) >= 0 {
			t.Fatalf("%s is not ahead of %s", c.Insts[k-1].Path, x.Path)
		}
		if !states.Final(x.State) {
			continue
		}
		for _, y := range c.Insts {
			if tree.Under(y.Path, x.Path) {
				below++
				if y.State != api.Completed && y.State != api.Terminated {
					t.Fatalf("%s is in %d below %s in %d", y.Path, y.State, x.Path, x.State)
				}
			}
		}
	}
	return below
}
