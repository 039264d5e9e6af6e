package finish_test

import (
	"math/rand"
	"slices"
	"strconv"
	"strings"
	"testing"

	"dossier/api"
	"dossier/finish"
	"dossier/tree"
)

func pick[T any](r *rand.Rand, l ...T) T { return l[r.Intn(len(l))] }

// truth is what the rules of random models come to.
var truth = map[string]bool{"": false, holds: true, fails: false, unknown: false}

// A maker makes models and cases of them.
type maker struct {
	*rand.Rand
	items map[string]api.Item
	insts []string
}

// item is one with others below it.
func (k *maker) item(kind, levels int) api.Item {
	i := api.Item{ID: "i" + strconv.Itoa(len(k.items)), Kind: kind, Required: pick(k.Rand, "", "", "", holds, fails, unknown)}
	k.items[i.ID] = i
	i.Auto = kind == api.ItemStage && k.Intn(3) == 0
	for range 5 {
		if kind == api.ItemStage && levels > 0 && k.Intn(4) > 0 {
			list := pick(k.Rand, &i.Kids, &i.Kids, &i.Kids, &i.Kids, &i.Kids, &i.Table)
			*list = append(*list, k.item(pick(k.Rand, 0, 0, 0, 0, 1, 2, 3, 4, 5, 6, 7), levels-1))
		}
	}
	k.items[i.ID] = i
	return i
}

// put adds an instance of an item with some below it, most of them in states in which their stage may be done.
func (k *maker) put(up string, i api.Item, n int) {
	state := pick(k.Rand, 3, 4, 5, 5, 7, 8, 1+k.Intn(8))
	if i.Kind == api.ItemStage && k.Intn(2) == 0 || up == "" && k.Intn(5) > 0 {
		state = pick(k.Rand, api.Active, api.Failed)
	}
	path := tree.Path(up, i.ID, n)
	k.insts = append(k.insts, in(path, state))
	for _, below := range slices.Concat(i.Kids, i.Table) {
		for n := range k.Intn(3) {
			k.put(path, below, n+1)
		}
	}
}

// made calls hold for random cases; in every third one some instances are odd.
func made(t *testing.T, seed int64, hold func(k *maker, m api.Model, c api.Case)) {
	t.Helper()
	r := rand.New(rand.NewSource(seed))
	for n := range 6000 {
		k := &maker{Rand: r, items: map[string]api.Item{}}
		m := api.Model{ID: "m", Plan: k.item(api.ItemStage, 3)}
		k.put("", m.Plan, 1)
		slices.SortFunc(k.insts, tree.Order)
		c := cased(strings.Join(k.insts, " "))
		for range k.Intn(4) {
			if x := &c.Insts[k.Intn(len(c.Insts))]; n%3 == 0 {
				x.Item = pick(k.Rand, x.Item, "i0", "i1", "i2", "none")
				x.State = pick(k.Rand, x.State, 4, k.Intn(11))
			}
		}
		hold(k, m, c)
		if t.Failed() {
			t.FailNow()
		}
	}
}

// sketched tells whether an instance of a case may complete, and whether it is done.
func (k *maker) sketched(c api.Case, x api.Inst) (may, done bool) {
	s := k.items[x.Item]
	if s.ID == "" || s.Kind != api.ItemStage || x.State != api.Active {
		return false, false
	}
	may, done = true, s.Auto || len(s.Table) == 0
	for _, y := range c.Insts {
		rest, below := strings.CutPrefix(y.Path, x.Path+"/")
		i := k.items[y.Item]
		if !below || strings.Contains(rest, "/") || i.ID == "" || i.Kind == api.ItemListener || i.Kind == api.ItemTimer {
			continue
		}
		switch y.State {
		case api.Active:
			may = false
		case api.Disabled, api.Failed, api.Completed, api.Terminated:
		default:
			may = may && !truth[i.Required]
			done = done && s.Auto
		}
	}
	return may, may && done
}

func TestP23_2Sketch(t *testing.T) {
	met := map[[2]bool]int{}
	made(t, 232, func(k *maker, m api.Model, c api.Case) {
		var all []string
		for _, x := range c.Insts {
			may, done := k.sketched(c, x)
			met[[2]bool{may, done}]++
			if finish.May(m, c, x.Path) != may || finish.Done(m, c, x.Path) != done {
				t.Errorf("%s, want %t and %t, in %+v of %+v", x.Path, may, done, c.Insts, m.Plan)
			}
			if done {
				all = append(all, x.Path)
			}
		}
		wantAll(t, m, c, all...)
	})
	if len(met) != 3 || met[[2]bool{true, false}] < 1000 || met[[2]bool{true, true}] < 1000 {
		t.Error(met)
	}
}

// No instance that is done is directly below another one; deeper there may be some.
func TestP23_3Apart(t *testing.T) {
	several, deeper := 0, 0
	made(t, 233, func(_ *maker, m api.Model, c api.Case) {
		all := finish.All(m, c)
		if len(all) > 1 {
			several++
		}
		for _, path := range all {
			if !finish.May(m, c, path) || !finish.Done(m, c, path) {
				t.Errorf("%s can't complete", path)
			}
			for _, other := range all {
				if tree.Up(path) == other {
					t.Errorf("%s is below %s", path, other)
				}
				if tree.Under(path, other) {
					deeper++
				}
			}
		}
	})
	if several < 500 || deeper < 50 {
		t.Error("only", several, deeper)
	}
}
