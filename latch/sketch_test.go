package latch

import (
	"math/rand"
	"slices"
	"strconv"
	"strings"
	"testing"

	"dossier/api"
	"dossier/model"
	"dossier/tree"
)

func pick[T any](r *rand.Rand, l ...T) T { return l[r.Intn(len(l))] }

// around is the stages around an item, the innermost first, by what each of them has directly below it.
func around(m api.Model, id string) []string {
	var l []string
	for up := true; up; {
		up = false
		for _, i := range model.Items(m) {
			if slices.ContainsFunc(slices.Concat(i.Kids, i.Table), func(kid api.Item) bool { return kid.ID == id }) {
				l, id, up = append(l, i.ID), i.ID, true
				break
			}
		}
	}
	return l
}

// sketched tells whether an event matches, by the texts of paths.
func sketched(m api.Model, x api.Inst, o api.OnPart, e api.Event) bool {
	if o.File != "" {
		names := []string{}
		for part := range strings.SplitSeq(e.Path, ".") {
			name, _, _ := strings.Cut(part, "#")
			names = append(names, name)
		}
		return e.File && e.Event == o.Event && strings.Join(names, ".") == o.File
	}
	parts := strings.Split(e.Path, "/")
	if e.File || e.Event != o.Event || !strings.HasPrefix(parts[len(parts)-1], o.Item+".") {
		return false
	}
	for _, id := range around(m, x.Item) {
		if slices.Contains(around(m, o.Item), id) {
			// The stages around it are in the path, and its instance is the part behind which both go on.
			mine, _, _ := strings.Cut(x.Path, "/"+id+".")
			if id == m.Plan.ID {
				return strings.HasPrefix(x.Path, "p.1/") && strings.HasPrefix(e.Path, "p.1/")
			}
			number, _, _ := strings.Cut(strings.TrimPrefix(x.Path, mine+"/"+id+"."), "/")
			return strings.HasPrefix(e.Path, mine+"/"+id+"."+number+"/")
		}
	}
	return false
}

// A maker makes models, and cases of them.
type maker struct {
	*rand.Rand
	ids []string
}

func (k *maker) model() api.Model {
	m := api.Model{ID: "m", Files: review().Files}
	m.Plan = k.item("p", api.ItemStage, 3)
	m.Plan.Entry = nil
	k.link(&m.Plan)
	return m
}

func (k *maker) item(id string, kind, levels int) api.Item {
	i := api.Item{ID: id, Kind: kind, Entry: make([]api.Sentry, k.Intn(3)), Exit: make([]api.Sentry, k.Intn(3))}
	k.ids = append(k.ids, id)
	for range levels + k.Intn(2) {
		if kind == api.ItemStage && levels > 0 {
			list := pick(k.Rand, &i.Kids, &i.Kids, &i.Table)
			*list = append(*list, k.item("i"+strconv.Itoa(len(k.ids)), pick(k.Rand, api.ItemStage, api.ItemStage, api.ItemHuman), levels-1))
		}
	}
	return i
}

// link fills the sentries, once all items are there.
func (k *maker) link(i *api.Item) {
	for _, l := range [][]api.Sentry{i.Entry, i.Exit} {
		for n := range l {
			l[n].If = pick(k.Rand, "true", "order.total > 5")
			for range k.Intn(4) {
				if id := pick(k.Rand, k.ids...); id != i.ID {
					l[n].On = append(l[n].On, on(id, pick(k.Rand, api.EvComplete, api.EvCreate)))
				}
				if k.Intn(4) == 0 {
					l[n].On = append(l[n].On, onFile(pick(k.Rand, "order", "order.total", "note"), pick(k.Rand, api.EvUpdate, api.EvCreate)))
				}
			}
		}
	}
	for _, l := range [][]api.Item{i.Kids, i.Table} {
		for n := range l {
			k.link(&l[n])
		}
	}
}

// fill puts instances of the items below a stage into a case.
func (k *maker) fill(c api.Case, i api.Item, path string) api.Case {
	x := api.Inst{Path: path, Item: i.ID, State: pick(k.Rand, 1, 2, 3, 4, 5, 6, 7, 8), Latches: make([]int, len(i.Entry)+len(i.Exit))}
	for n := range x.Latches {
		x.Latches[n] = k.Intn(8)
	}
	if k.Intn(12) == 0 {
		x.Latches = append(x.Latches, 0)
	}
	c = tree.Put(c, x)
	for _, kid := range slices.Concat(i.Kids, i.Table) {
		for range k.Intn(3) {
			c = k.fill(c, kid, tree.Path(path, kid.ID, tree.Next(c, path, kid.ID)))
		}
	}
	return c
}

func (k *maker) events(c api.Case) []api.Event {
	var l []api.Event
	for range k.Intn(12) {
		if k.Intn(3) == 0 {
			l = append(l, fileEvent(pick(k.Rand, "order#1", "order#2", "order#1.total#1", "note#7"), pick(k.Rand, api.EvUpdate, api.EvCreate)))
			continue
		}
		l = append(l, event(pick(k.Rand, c.Insts...).Path, pick(k.Rand, api.EvComplete, api.EvComplete, api.EvCreate, api.EvFault)))
	}
	return l
}

// made calls hold for random models, cases and events.
func made(t *testing.T, seed int64, many int, hold func(k *maker, m api.Model, c api.Case, l []api.Event)) {
	t.Helper()
	r := rand.New(rand.NewSource(seed))
	for range many {
		k := &maker{Rand: r}
		m := k.model()
		if err := model.Check(m); err != api.OK && err != api.ErrFull {
			t.Fatal(err, m)
		}
		c := k.fill(api.Case{}, m.Plan, "p.1")
		if len(c.Insts) < 100 {
			hold(k, m, c, k.events(c))
		}
	}
}

func TestP20_1Sketch(t *testing.T) {
	matched, not, all := 0, 0, 0
	made(t, 201, 300, func(k *maker, m api.Model, c api.Case, l []api.Event) {
		want := tree.Copy(c)
		for _, x := range want.Insts {
			i, _ := model.Find(m, x.Item)
			if len(x.Latches) > len(i.Entry)+len(i.Exit) || x.State == api.Completed || x.State == api.Terminated {
				continue
			}
			for n, s := range slices.Concat(i.Entry, i.Exit) {
				for part, o := range s.On {
					for _, e := range l {
						is := sketched(m, x, o, e)
						if Matches(m, x, o, e) != is {
							t.Fatalf("Matches(%+v, %+v, %+v) = %t", x, o, e, !is)
						}
						if all++; !is {
							continue
						}
						if matched++; x.Latches[n]>>part%2 == 0 {
							x.Latches[n] += 1 << part
							not++
						}
					}
				}
			}
		}
		wantCase(t, "latch", Latch(m, c, l), want)
	})
	if matched < 1000 || not < 200 || all-matched < 10000 {
		t.Error(matched, not, all)
	}
}

// Neither the order of events nor how often they are recorded makes a difference, and lists can be joined.
func TestP20_3Order(t *testing.T) {
	changed := 0
	made(t, 203, 300, func(k *maker, m api.Model, c api.Case, l []api.Event) {
		want := Latch(m, c, l)
		if !tree.Same(want, c) {
			changed++
		}
		mixed := append(slices.Clone(l), l[:k.Intn(len(l)+1)]...)
		k.Shuffle(len(mixed), func(a, b int) { mixed[a], mixed[b] = mixed[b], mixed[a] })
		wantCase(t, "mixed", Latch(m, c, mixed), want)
		wantCase(t, "twice", Latch(m, want, l), want)
		cut := k.Intn(len(mixed) + 1)
		wantCase(t, "two lists", Latch(m, Latch(m, c, mixed[:cut]), mixed[cut:]), want)
		one := c
		for _, e := range mixed {
			one = Latch(m, one, []api.Event{e})
		}
		wantCase(t, "one by one", one, want)
	})
	if changed < 60 {
		t.Error("only", changed)
	}
}
