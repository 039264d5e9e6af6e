package planning_test

import (
	"math/rand"
	"slices"
	"strconv"
	"testing"

	"dossier/api"
	"dossier/cascade"
	"dossier/planning"
	"dossier/tree"
)

func pick[T any](r *rand.Rand, l ...T) T { return l[r.Intn(len(l))] }

// A maker makes models and cases of them, and notes the table of each stage.
type maker struct {
	*rand.Rand
	ids    []string
	tables map[string][]string // of stages by their IDs; that of another item is not there
	c      api.Case
}

func (k *maker) item(kind, levels int) api.Item {
	i := api.Item{ID: "i" + strconv.Itoa(len(k.ids)), Kind: kind}
	k.ids = append(k.ids, i.ID)
	if kind == api.ItemTimer {
		i.After = 1 + k.Intn(9)
	}
	for range 4 {
		if kind == api.ItemStage && levels > 0 && k.Intn(4) > 0 {
			list := pick(k.Rand, &i.Kids, &i.Table)
			*list = append(*list, k.item(pick(k.Rand, 0, 0, 0, 1, 2, 3, 4, 5, 6, 7), levels-1))
		}
	}
	if kind == api.ItemStage {
		k.tables[i.ID] = nil
		for _, d := range i.Table {
			k.tables[i.ID] = append(k.tables[i.ID], d.ID)
		}
	}
	return i
}

// put adds an instance of an item with some below it.
func (k *maker) put(up string, i api.Item, n int) {
	path := tree.Path(up, i.ID, n)
	k.c.Insts = append(k.c.Insts, api.Inst{Path: path, Item: i.ID, State: pick(k.Rand, api.Active, 1+k.Intn(9))})
	for _, below := range slices.Concat(i.Kids, i.Table) {
		for n := range k.Intn(3) {
			k.put(path, below, n+1)
		}
	}
}

// made calls hold for random cases; in every third one some instances are odd.
func made(t *testing.T, seed int64, hold func(k *maker, m api.Model)) {
	t.Helper()
	r := rand.New(rand.NewSource(seed))
	for n := range 2500 {
		k := &maker{Rand: r, tables: map[string][]string{}, c: api.Case{ID: 1, Model: "m", Clock: r.Intn(9)}}
		m := api.Model{ID: "m", Plan: k.item(api.ItemStage, 3)}
		k.put("", m.Plan, 1)
		slices.SortFunc(k.c.Insts, func(x, y api.Inst) int { return tree.Order(x.Path, y.Path) })
		for range k.Intn(4) {
			if x := &k.c.Insts[k.Intn(len(k.c.Insts))]; n%3 == 0 {
				x.Item = pick(k.Rand, x.Item, "i0", "i1", "i2", "none", "")
				x.Path = pick(k.Rand, x.Path, pick(k.Rand, k.c.Insts...).Path, "i0.1", "")
			}
		}
		hold(k, m)
		if t.Failed() {
			t.FailNow()
		}
	}
}

// sketched is what can be planned at a path, and whether there is a stage, Active or not.
func (k *maker) sketched(path string) (table []string, is, active bool) {
	for _, x := range k.c.Insts {
		if x.Path == path {
			table, is = k.tables[x.Item]
			return table, is, x.State == api.Active
		}
	}
	return nil, false, false
}

func TestP28_1Sketch(t *testing.T) {
	met := map[api.Errno]int{}
	made(t, 281, func(k *maker, m api.Model) {
		for range 30 {
			path := pick(k.Rand, pick(k.Rand, k.c.Insts...).Path, tree.Path("", pick(k.Rand, k.ids...), 1))
			table, is, active := k.sketched(path)
			item := pick(k.Rand, pick(k.Rand, k.ids...), pick(k.Rand, append(table, "none")...))
			most := pick(k.Rand, len(k.c.Insts)-k.Intn(3), len(k.c.Insts)+1, api.MaxInst)
			want := api.OK
			switch {
			case !is || !slices.Contains(table, item):
				want = api.ErrNone
			case !active:
				want = api.ErrState
			case most <= len(k.c.Insts):
				want = api.ErrBudget
			}
			met[want]++
			if want != api.OK {
				wantError(t, m, k.c, path, item, want, most)
			} else {
				c, l, err := cascade.Create(m, k.c, path, item, most)
				if err != api.OK || len(l) != 1 {
					t.Fatal(err, l)
				}
				wantPlan(t, m, k.c, path, item, c, l[0].Path)
			}
			if !active {
				table = nil
			}
			if l := planning.Items(m, k.c, path); !slices.Equal(l, table) {
				t.Errorf("%q in %q of %+v, want %q", l, path, k.c.Insts, table)
			}
		}
	})
	if len(met) != 4 || met[api.OK] < 2000 || met[api.ErrState] < 2000 || met[api.ErrBudget] < 1000 {
		t.Error("one-sided:", met)
	}
}

// Each item that can be planned is, as long as there are fewer instances than there may be, and no other one.
func TestP28_2Sketch(t *testing.T) {
	planned, refused := 0, 0
	made(t, 282, func(k *maker, m api.Model) {
		for _, x := range k.c.Insts {
			l := planning.Items(m, k.c, x.Path)
			for _, item := range append([]string{"none", x.Item}, k.ids...) {
				c, events, err := planning.Plan(m, k.c, x.Path, item, len(k.c.Insts)+1)
				if (err == api.OK) != slices.Contains(l, item) {
					t.Fatalf("%q below %q of %+v: error %d, one of %q", item, x.Path, k.c.Insts, err, l)
				}
				if err != api.OK {
					refused++
					continue
				}
				planned++
				y, is := tree.Find(c, events[0].Path)
				if len(c.Insts) != len(k.c.Insts)+1 || !is || y.Item != item || y.State != api.Available || tree.Up(y.Path) != x.Path {
					t.Fatalf("%q below %q: %+v", item, x.Path, c.Insts)
				}
				wantError(t, m, k.c, x.Path, item, api.ErrBudget, len(k.c.Insts))
			}
		}
	})
	if planned < 5000 || refused < 50000 {
		t.Error("one-sided:", planned, refused)
	}
}
