package roles_test

import (
	"slices"
	"strconv"
	"strings"
	"testing"

	"dossier/api"
	"dossier/model"
	"dossier/roles"
)

// office is a model with items of all kinds, some of which are for some roles only.
func office() api.Model {
	stage := api.Item{ID: "s", Kind: api.ItemStage, Roles: []string{"boss", "clerk"}, Kids: []api.Item{
		{ID: "t", Kind: api.ItemProcess},
		{ID: "w", Kind: api.ItemTimer, After: 5},
		{ID: "i", Kind: api.ItemStage, Kids: []api.Item{{ID: "k", Kind: api.ItemCase, Roles: []string{"guard", "boss"}}}},
	}, Table: []api.Item{{ID: "x", Kind: api.ItemHuman, Roles: []string{"guard"}}, {ID: "e", Kind: api.ItemDecision}}}
	return api.Model{ID: "office", Roles: []string{"clerk", "boss", "guard"}, Plan: api.Item{ID: "p", Kids: []api.Item{
		{ID: "z", Kind: api.ItemHuman, Roles: []string{"clerk"}},
		stage,
		{ID: "l", Kind: api.ItemListener, Roles: []string{"boss"}},
		{ID: "m", Kind: api.ItemMilestone},
	}, Table: []api.Item{{ID: "d", Kind: api.ItemHuman, Roles: []string{"clerk", "guard", "boss"}}}}}
}

// all are the items of the office in order, each with the roles that may work on it.
const all = "p: clerk boss guard, z:clerk, s:boss clerk, t: clerk boss guard, w: clerk boss guard, i: clerk boss guard, k:guard boss, x:guard, e: clerk boss guard, l:boss, m: clerk boss guard, d:clerk guard boss"

// unknowns are no roles of the office; some are roles of others, or items.
var unknowns = [...]string{" ", "Clerk", "clerk ", "cler", "clerks", "clerk boss", "p", "z", "office", "none", "\x00", "\xff", strings.Repeat("boss", 50000)}

func wantCheck(t *testing.T, m api.Model, item, role string, want api.Errno) {
	t.Helper()
	if err := roles.Check(m, item, role); err != want {
		t.Errorf("%q on %q of %+v: error %d, want %d", role, item, m, err, want)
	}
}

func wantMay(t *testing.T, m api.Model, role string, want ...string) {
	t.Helper()
	if got := roles.May(m, role); !slices.Equal(got, want) {
		t.Errorf("%q may work on %q, want %q", role, got, want)
	}
}

func TestOffice(t *testing.T) {
	if err := model.Check(office()); err != api.OK {
		t.Fatal(err)
	}
}

func TestP27_1Check(t *testing.T) {
	m := office()
	for s := range strings.SplitSeq(all, ", ") {
		item, may, _ := strings.Cut(s, ":")
		for _, role := range []string{"", "clerk", "boss", "guard"} {
			want := api.ErrRole
			if slices.Contains(strings.Split(may, " "), role) {
				want = api.OK
			}
			wantCheck(t, m, item, role, want)
		}
	}
}

// A role that is none of the model's is wrong ahead of an item that is none.
func TestP27_1Stranger(t *testing.T) {
	m := office()
	for _, role := range unknowns {
		for _, item := range []string{"p", "z", "t", "w", "x", "m", "", "none", role} {
			wantCheck(t, m, item, role, api.ErrRole)
			wantCheck(t, api.Model{}, item, role, api.ErrRole)
		}
	}
	// It is the roles of the model that count first, then those of the item.
	m.Roles = []string{"clerk", "guard"}
	wantCheck(t, m, "l", "boss", api.ErrRole)
	wantCheck(t, m, "t", "boss", api.ErrRole)
	m.Roles = nil
	wantCheck(t, m, "z", "clerk", api.ErrRole)
	wantCheck(t, m, "t", "clerk", api.ErrRole)
	wantCheck(t, m, "t", "", api.OK)
	wantCheck(t, m, "z", "", api.ErrRole)
}

func TestP27_1None(t *testing.T) {
	m := office()
	for _, role := range []string{"", "clerk", "boss", "guard"} {
		for _, item := range []string{"", " ", "P", "p ", "p.1", "p.1/z.1", "z.1", "office", "none", "clerk", "\xff", strings.Repeat("p", 100000)} {
			wantCheck(t, m, item, role, api.ErrNone)
		}
	}
	wantCheck(t, api.Model{}, "p", "", api.ErrNone)
}

func TestP27_1Known(t *testing.T) {
	m := office()
	for _, role := range m.Roles {
		if !roles.Known(m, role) || roles.Known(api.Model{}, role) {
			t.Errorf("%q", role)
		}
	}
	for _, role := range append(unknowns[:], "") {
		if roles.Known(m, role) || roles.Known(api.Model{}, role) {
			t.Errorf("%q is known", role)
		}
	}
	m = api.Model{Roles: []string{"a b", "", "a b"}} // made by hand
	if !roles.Known(m, "") || !roles.Known(m, "a b") || roles.Known(m, "a") {
		t.Error("a model made by hand")
	}
}

func TestP27_1May(t *testing.T) {
	m := office()
	for _, role := range []string{"", "clerk", "boss", "guard"} {
		var want []string
		for s := range strings.SplitSeq(all, ", ") {
			item, may, _ := strings.Cut(s, ":")
			if slices.Contains(strings.Split(may, " "), role) {
				want = append(want, item)
			}
		}
		wantMay(t, m, role, want...)
	}
	wantMay(t, m, "", "p", "t", "w", "i", "e", "m")
	wantMay(t, m, "guard", "p", "t", "w", "i", "k", "x", "e", "m", "d")
	for _, role := range unknowns {
		wantMay(t, m, role)
		wantMay(t, api.Model{}, role)
	}
	wantMay(t, api.Model{}, "", "")
	m.Roles = m.Roles[:1]
	wantMay(t, m, "guard")
	wantMay(t, m, "clerk", "p", "z", "s", "t", "w", "i", "e", "m", "d")
}

// An ID that is there twice stands for the first item that has it.
func TestP27_1Twice(t *testing.T) {
	m := office()
	m.Plan.Kids[1].Kids[0].ID = "z"
	m.Plan.Table[0].ID = "t"
	m.Plan.Table = append(m.Plan.Table, api.Item{ID: "m", Kind: api.ItemHuman, Roles: []string{"guard"}}, api.Item{ID: "x", Kind: api.ItemHuman})
	wantCheck(t, m, "z", "", api.ErrRole)
	wantCheck(t, m, "z", "boss", api.ErrRole)
	wantCheck(t, m, "m", "clerk", api.OK)
	wantMay(t, m, "", "p", "w", "i", "e", "m", "m")
	wantMay(t, m, "clerk", "p", "z", "s", "z", "w", "i", "e", "m", "t", "m")
	wantMay(t, m, "guard", "p", "w", "i", "k", "x", "e", "m", "t", "m", "x")
}

// What the lists say counts, also in a model made by hand: in kinds without roles, in the plan, and "" like any other role.
func TestP27_1MadeByHand(t *testing.T) {
	m := office()
	m.Plan.Roles = []string{"boss"}
	m.Plan.Kids[1].Kids[1].Roles = []string{"guard", "guard"}
	m.Plan.Kids[3].Roles = []string{"none", "", "boss"}
	m.Plan.Kids[3].Kind = -7
	wantCheck(t, m, "p", "boss", api.OK)
	wantCheck(t, m, "p", "clerk", api.ErrRole)
	wantCheck(t, m, "w", "guard", api.OK)
	wantCheck(t, m, "m", "", api.OK)
	wantCheck(t, m, "m", "boss", api.OK)
	wantCheck(t, m, "m", "clerk", api.ErrRole)
	wantCheck(t, m, "m", "none", api.ErrRole) // not one of the model's
	wantMay(t, m, "", "t", "i", "e", "m")
	wantMay(t, m, "none")
	m.Roles = append(m.Roles, "none", "", "none")
	wantCheck(t, m, "m", "none", api.OK)
	wantCheck(t, m, "z", "", api.ErrRole)
	wantMay(t, m, "none", "t", "i", "e", "m")
	wantMay(t, m, "", "t", "i", "e", "m")
	// An item without an ID is one, too.
	m = api.Model{Plan: api.Item{ID: "p", Kids: []api.Item{{Roles: []string{"r"}}}}, Roles: []string{"r"}}
	wantCheck(t, m, "", "", api.ErrRole)
	wantCheck(t, m, "", "r", api.OK)
	wantMay(t, m, "r", "p", "")
	// Nil and empty lists are the same.
	m.Plan.Kids[0].Roles = []string{}
	wantCheck(t, m, "", "", api.OK)
	m.Roles = []string{}
	wantCheck(t, m, "p", "r", api.ErrRole)
}

// The spare capacity of lists does not count, and is left alone; results are new ones.
func TestP27_1Memory(t *testing.T) {
	m := office()
	m.Roles = append(m.Roles, "spare")[:3]
	kids := m.Plan.Kids
	kids[0].Roles = append(kids[0].Roles, "boss", "spare")[:1]
	m.Plan.Kids = append(kids, api.Item{ID: "spare"})[:4]
	wantCheck(t, m, "z", "spare", api.ErrRole)
	wantCheck(t, m, "z", "boss", api.ErrRole)
	wantCheck(t, m, "spare", "", api.ErrNone)
	wantMay(t, m, "spare")
	l := roles.May(m, "")
	wantMay(t, m, "", "p", "t", "w", "i", "e", "m")
	for k := range l[:cap(l)] {
		l[:cap(l)][k] = "spoilt"
	}
	wantMay(t, m, "", "p", "t", "w", "i", "e", "m")
	if got := m.Plan.Kids[:5][4].ID + m.Roles[:4][3] + m.Plan.Kids[0].Roles[:3][1]; got != "sparespareboss" {
		t.Error(got)
	}
}

// A deep model takes no more memory, and a wide one no more time, than it has items.
func TestP27_1Large(t *testing.T) {
	const levels, row = 1 << 16, 200000
	i := api.Item{ID: "last", Kind: api.ItemHuman, Roles: []string{"r"}}
	for range levels {
		i = api.Item{ID: "s", Kind: api.ItemStage, Kids: []api.Item{i}}
	}
	m := api.Model{Plan: i, Roles: []string{"r"}}
	if l := roles.May(m, "r"); len(l) != levels+1 || l[levels] != "last" {
		t.Error(len(l))
	}
	if l := roles.May(m, ""); len(l) != levels || l[0] != "s" {
		t.Error(len(l))
	}
	wantCheck(t, m, "last", "", api.ErrRole)
	wantCheck(t, m, "last", "r", api.OK)
	m.Plan.Kids = make([]api.Item, row)
	for k := range m.Plan.Kids {
		m.Plan.Kids[k].ID = "i" + strconv.Itoa(k)
	}
	if l := roles.May(m, "r"); len(l) != row+1 || l[row] != "i"+strconv.Itoa(row-1) {
		t.Error(len(l))
	}
}

func TestP27_2Everybody(t *testing.T) {
	m := office()
	for _, i := range model.Items(m) {
		everybody := roles.Check(m, i.ID, "")
		if (everybody == api.OK) != (len(i.Roles) == 0) {
			t.Errorf("%s: error %d", i.ID, everybody)
		}
		for _, role := range m.Roles {
			if everybody == api.OK {
				wantCheck(t, m, i.ID, role, api.OK)
			}
		}
	}
}

func TestP27_2Example(t *testing.T) {
	for _, role := range []string{"", "clerk", "boss", "guard"} {
		wantCheck(t, office(), "t", role, api.OK)
	}
}
