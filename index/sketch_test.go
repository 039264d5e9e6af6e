package index

import (
	"math/rand"
	"slices"
	"strconv"
	"strings"
	"testing"

	"dossier/api"
	"dossier/latch"
	"dossier/model"
	"dossier/states"
	"dossier/tree"
)

func pick[T any](r *rand.Rand, l ...T) T { return l[r.Intn(len(l))] }

// grown is an item with others below it, and with sentries that wait for any of so many items.
func grown(r *rand.Rand, next *int, many, levels int) api.Item {
	i := api.Item{ID: "i" + strconv.Itoa(*next), Kind: pick(r, api.ItemStage, api.ItemHuman)}
	*next++
	i.Entry, i.Exit = sides(r, many), sides(r, many)
	for range 3 {
		if levels > 0 && *next < many {
			list := pick(r, &i.Kids, &i.Kids, &i.Table)
			*list = append(*list, grown(r, next, many, levels-1))
		}
	}
	return i
}

func sides(r *rand.Rand, many int) []api.Sentry {
	l := make([]api.Sentry, r.Intn(3))
	for k := range l {
		for range r.Intn(4) {
			o := on("i"+strconv.Itoa(r.Intn(many)), pick(r, api.EvCreate, api.EvStart))
			if r.Intn(3) == 0 {
				o = onFile(pick(r, "f", "f.g", "i1"), pick(r, api.EvCreate, api.EvUpdate))
			}
			l[k].On = append(l[k].On, o)
		}
	}
	return l
}

// peopled puts instances of an item and of what is below it into a case.
func peopled(r *rand.Rand, c api.Case, i api.Item, path string) api.Case {
	x := api.Inst{Path: path, Item: i.ID, State: 1 + r.Intn(8), Latches: make([]int, len(i.Entry)+len(i.Exit))}
	for k := range x.Latches {
		x.Latches[k] = r.Intn(8)
	}
	if r.Intn(12) == 0 {
		x.Latches = append(x.Latches, 0)
	}
	c = tree.Put(c, x)
	for _, kid := range slices.Concat(i.Kids, i.Table) {
		for range r.Intn(3) {
			c = peopled(r, c, kid, tree.Path(path, kid.ID, tree.Next(c, path, kid.ID)))
		}
	}
	return c
}

// grownUp calls hold for random models, cases and events.
func grownUp(seed int64, times int, hold func(m api.Model, c api.Case, e api.Event)) {
	r := rand.New(rand.NewSource(seed))
	for range times {
		next := 0
		m := api.Model{ID: "m", Plan: grown(r, &next, 2+r.Intn(9), 3)}
		c := peopled(r, api.Case{}, m.Plan, "i0.1")
		for range 8 {
			hold(m, c, event(pick(r, c.Insts...).Path, pick(r, api.EvCreate, api.EvStart)))
			hold(m, c, fileEvent(pick(r, "f#1", "f#2.g#1", "i1#7", "none#1"), pick(r, api.EvCreate, api.EvUpdate)))
		}
	}
}

// fits tells whether the source of an on-part is that of an event, by the texts of paths.
func fits(o api.OnPart, e api.Event) bool {
	if e.File {
		var names []string
		for part := range strings.SplitSeq(e.Path, ".") {
			names = append(names, part[:strings.Index(part, "#")])
		}
		return o.File == strings.Join(names, ".")
	}
	last := e.Path[strings.LastIndex(e.Path, "/")+1:]
	return o.Item != "" && o.Item == last[:strings.Index(last, ".")]
}

// parts visits the on-parts of an item, each with its hook.
func parts(i api.Item, visit func(h api.Hook, o api.OnPart)) {
	for k, s := range slices.Concat(i.Entry, i.Exit) {
		h := api.Hook{Item: i.ID, Entry: k < len(i.Entry), Sentry: k}
		if !h.Entry {
			h.Sentry -= len(i.Entry)
		}
		for part, o := range s.On {
			h.Part = part
			visit(h, o)
		}
	}
}

func TestP21_1Sketch(t *testing.T) {
	found := 0
	grownUp(211, 400, func(m api.Model, _ api.Case, e api.Event) {
		var want []api.Hook
		for _, i := range model.Items(m) {
			parts(i, func(h api.Hook, o api.OnPart) {
				if o.Event == e.Event && fits(o, e) {
					want = append(want, h)
				}
			})
		}
		found += len(want)
		if got := New(m).For(e); !slices.Equal(got, want) {
			t.Fatalf("%+v: %s, want %s", e, written(got), written(want))
		}
	})
	if found < 4000 {
		t.Error("only", found)
	}
}

func TestP21_2Sketch(t *testing.T) {
	changed, told := 0, 0
	grownUp(212, 400, func(m api.Model, c api.Case, e api.Event) {
		var paths []string
		for _, x := range c.Insts {
			i, _ := model.Find(m, x.Item)
			matched := false
			parts(i, func(_ api.Hook, o api.OnPart) { matched = matched || latch.Matches(m, x, o, e) })
			if matched && !states.Final(x.State) && len(x.Latches) == len(i.Entry)+len(i.Exit) {
				paths = append(paths, x.Path)
			}
		}
		want := latch.Latch(m, c, []api.Event{e})
		wantLatch(t, "random", New(m), c, e, want, paths...)
		if told += len(paths); !tree.Same(c, want) {
			changed++
		}
	})
	if changed < 500 || told < 2000 {
		t.Error("only", changed, told)
	}
}

// What matches an on-part of any instance is found, also where latches cannot be set.
func TestP21_3Found(t *testing.T) {
	matched := 0
	grownUp(213, 400, func(m api.Model, c api.Case, e api.Event) {
		l := New(m).For(e)
		for _, x := range c.Insts {
			i, _ := model.Find(m, x.Item)
			parts(i, func(h api.Hook, o api.OnPart) {
				if !latch.Matches(m, x, o, e) {
					return
				}
				if matched++; !slices.Contains(l, h) {
					t.Fatalf("%+v is not found for %+v", h, e)
				}
			})
		}
	})
	if matched < 2000 {
		t.Error("only", matched)
	}
}
