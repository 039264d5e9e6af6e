package roles_test

import (
	"math/rand"
	"slices"
	"strconv"
	"testing"

	"dossier/api"
	"dossier/model"
	"dossier/roles"
)

func pick[T any](r *rand.Rand, l ...T) T { return l[r.Intn(len(l))] }

// A maker makes models, and notes the roles of each ID as it makes the items.
type maker struct {
	*rand.Rand
	odd   bool // the model may be invalid
	ids   []string
	roles map[string][]string
}

func (k *maker) item(kind, levels int) api.Item {
	i := api.Item{ID: "i" + strconv.Itoa(len(k.ids)), Kind: kind}
	if k.odd && k.Intn(4) == 0 {
		i.ID = pick(k.Rand, "i0", "i1", "i2", "")
	}
	if k.odd || len(k.ids) > 0 && kind != api.ItemMilestone && kind != api.ItemTimer {
		i.Roles = k.some("a", "b", "c")
	}
	if k.odd && k.Intn(3) == 0 {
		i.Roles = append(i.Roles, pick(k.Rand, "", "d", "a", i.ID))
	}
	if kind == api.ItemTimer {
		i.After = 1
	}
	if _, met := k.roles[i.ID]; !met {
		k.roles[i.ID] = i.Roles
	}
	k.ids = append(k.ids, i.ID)
	for _, list := range []*[]api.Item{&i.Kids, &i.Table} {
		for range k.Intn(4) {
			if kind == api.ItemStage && levels > 0 {
				*list = append(*list, k.item(pick(k.Rand, 0, 0, 0, 1, 2, 3, 4, 5, 6, 7), levels-1))
			}
		}
	}
	return i
}

// some are some of some roles, none as often as not.
func (k *maker) some(l ...string) []string {
	if k.Intn(2) == 0 {
		return nil
	}
	k.Shuffle(len(l), func(a, b int) { l[a], l[b] = l[b], l[a] })
	return l[:k.Intn(len(l)+1)]
}

// made calls hold for random models, of which every second one may be invalid.
func made(t *testing.T, seed int64, hold func(k *maker, m api.Model)) {
	t.Helper()
	r := rand.New(rand.NewSource(seed))
	for n := range 4000 {
		k := &maker{Rand: r, odd: n%2 == 0, roles: map[string][]string{}}
		m := api.Model{ID: "m", Roles: []string{"a", "b", "c"}, Plan: k.item(api.ItemStage, 3)}
		if k.odd {
			m.Roles = append(k.some("a", "b", "c"), pick(k.Rand, "d", "", "b"))
		}
		hold(k, m)
		if t.Failed() {
			t.FailNow()
		}
	}
}

// sketched is what is wrong with a role, by what was noted.
func (k *maker) sketched(m api.Model, item, role string) api.Errno {
	l, is := k.roles[item]
	known := map[string]bool{"": true}
	for _, r := range m.Roles {
		known[r] = true
	}
	for _, r := range l {
		if r == role && known[role] {
			return api.OK
		}
	}
	switch {
	case known[role] && !is:
		return api.ErrNone
	case known[role] && len(l) == 0:
		return api.OK
	}
	return api.ErrRole
}

func TestP27_1Sketch(t *testing.T) {
	met := map[api.Errno]int{}
	made(t, 271, func(k *maker, m api.Model) {
		for _, role := range []string{"", "a", "b", "c", "d", "e", "i1"} {
			var may []string
			for _, item := range append([]string{"none", "a", ""}, k.ids...) {
				want := k.sketched(m, item, role)
				wantCheck(t, m, item, role, want)
				met[want]++
			}
			for _, item := range k.ids {
				if k.sketched(m, item, role) == api.OK {
					may = append(may, item)
				}
			}
			wantMay(t, m, role, may...)
			if roles.Known(m, role) != (slices.Index(m.Roles, role) >= 0) {
				t.Errorf("%q, of %q", role, m.Roles)
			}
		}
	})
	if len(met) != 3 || met[api.OK] < 5000 || met[api.ErrRole] < 5000 || met[api.ErrNone] < 5000 {
		t.Error("one-sided:", met)
	}
}

func TestP27_2Sketch(t *testing.T) {
	everybody, some := 0, 0
	made(t, 272, func(k *maker, m api.Model) {
		if model.Check(m) != api.OK {
			return
		}
		for _, i := range model.Items(m) {
			if len(i.Roles) > 0 {
				some++
				wantCheck(t, m, i.ID, "", api.ErrRole)
				continue
			}
			everybody++
			for _, role := range append([]string{""}, m.Roles...) {
				wantCheck(t, m, i.ID, role, api.OK)
			}
		}
		for _, item := range roles.May(m, "") {
			for _, role := range m.Roles {
				if !slices.Contains(roles.May(m, role), item) {
					t.Errorf("%q may not work on %q", role, item)
				}
			}
		}
	})
	if everybody < 3000 || some < 3000 {
		t.Error("one-sided:", everybody, some)
	}
}
