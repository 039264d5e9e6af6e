package report_test

import (
	"slices"
	"strconv"
	"strings"
	"testing"

	"dossier/api"
	"dossier/model"
	"dossier/report"
	"dossier/tree"
)

// on is a sentry that waits for an event, such as "t complete".
func on(event string) []api.Sentry {
	item, name, _ := strings.Cut(event, " ")
	n, _ := model.EventOf(name)
	return []api.Sentry{{On: []api.OnPart{{Item: item, Event: n}}}}
}

// office is a valid model in which each role finds other work.
func office() api.Model {
	s := api.Item{ID: "s", Kind: api.ItemStage, Roles: []string{"clerk"}, Manual: "true", Kids: []api.Item{
		{ID: "t", Kind: api.ItemHuman, Required: "true", Manual: "true", Repeat: "number(t, completed) < 3"},
		{ID: "w", Kind: api.ItemTimer, After: 5},
		{ID: "n", Kind: api.ItemStage, Entry: on("w occur"), Kids: []api.Item{{ID: "v", Kind: api.ItemProcess, Repeat: "number(v, terminated) < 2"}}, Table: []api.Item{{ID: "z", Kind: api.ItemCase}}},
	}, Table: []api.Item{{ID: "y", Kind: api.ItemMilestone}, {ID: "x", Kind: api.ItemHuman, Roles: []string{"boss"}, Exit: on("a complete")}}}
	return api.Model{ID: "office", Roles: []string{"boss", "clerk"}, Files: []api.FileItem{{Name: "order", Multi: api.MultiAny}}, Plan: api.Item{ID: "p", Kids: []api.Item{
		{ID: "a", Kind: api.ItemHuman, Repeat: "number(a, completed) < 3"},
		{ID: "b", Kind: api.ItemHuman, Manual: "true", Roles: []string{"boss", "clerk"}},
		{ID: "l", Kind: api.ItemListener, Roles: []string{"boss"}},
		{ID: "m", Kind: api.ItemMilestone, Entry: on("l occur")},
		s,
	}, Table: []api.Item{{ID: "d", Kind: api.ItemDecision, Free: true, Roles: []string{"clerk", "boss"}}}}}
}

// cased makes a case of the office, with the ID 3, from a text such as "p.1=4 p.1/s.1=6<14": path, state, and the state before; "~" and an item follow if it is another one than that of the path.
func cased(insts string) api.Case {
	c := api.Case{ID: 3, Model: "office"}
	for s := range strings.FieldsSeq(insts) {
		var x api.Inst
		s, x.Item, _ = strings.Cut(s, "~")
		path, numbers, _ := strings.Cut(s, "=")
		state, before, _ := strings.Cut(numbers, "<")
		x.Path = path
		if x.Item == "" {
			x.Item, _ = tree.Last(path)
		}
		x.State, _ = strconv.Atoi(state)
		x.Before, _ = strconv.Atoi(before)
		i, _ := model.Find(office(), x.Item)
		x.Latches = make([]int, len(i.Entry)+len(i.Exit))
		c.Insts = append(c.Insts, x)
	}
	return c
}

// spelt is work as a text such as "p.1/a.1: complete fault; p.1/s.1: manualStart; p.1/s.1+x".
func spelt(t *testing.T, work []api.Command, id int, role string) string {
	t.Helper()
	var b strings.Builder
	last := ""
	for _, k := range work {
		want := api.Command{Verb: api.VerbDo, Case: id, Role: role, Path: k.Path, Event: k.Event}
		if k.Verb == api.VerbPlan {
			want = api.Command{Verb: api.VerbPlan, Case: id, Role: role, Path: k.Path, Name: k.Name}
		}
		if k != want {
			t.Errorf("%+v", k)
		}
		switch {
		case k.Verb == api.VerbPlan:
			b.WriteString("; " + k.Path + "+" + k.Name)
			last = ""
		case k.Path != last:
			b.WriteString("; " + k.Path + ": " + model.EventName(k.Event))
			last = k.Path
		default:
			b.WriteString(" " + model.EventName(k.Event))
		}
	}
	return strings.TrimPrefix(b.String(), "; ")
}

func wantWork(t *testing.T, m api.Model, c api.Case, role, want string) {
	t.Helper()
	if got := spelt(t, report.Work(m, c, role), c.ID, role); got != want {
		t.Errorf("%q: %s, not %s", role, got, want)
	}
}

// begun is the office's case as it begins.
const begun = "p.1=4 p.1/a.1=4 p.1/b.1=2 p.1/l.1=1 p.1/m.1=1 p.1/s.1=2"

func TestP36_2Roles(t *testing.T) {
	m, c := office(), cased(begun)
	const all, a, rest = "p.1: fault suspend terminate", "p.1/a.1: complete fault suspend terminate", "p.1/m.1: suspend terminate"
	wantWork(t, m, c, "", all+"; "+a+"; "+rest)
	wantWork(t, m, c, "boss", all+"; p.1+d; "+a+"; p.1/b.1: disable manualStart; p.1/l.1: suspend terminate occur; "+rest)
	wantWork(t, m, c, "clerk", all+"; p.1+d; "+a+"; p.1/b.1: disable manualStart; "+rest+"; p.1/s.1: disable manualStart")
	for _, role := range []string{"nobody", "Boss", "boss ", "p", "\x00"} {
		wantWork(t, m, c, role, "")
	}
	// A model made by hand: "" may be a role, and an item's role need not be one of the model.
	m.Plan.Roles, m.Roles = []string{"", "nobody"}, []string{"clerk"}
	wantWork(t, m, c, "", all+"; "+a+"; "+rest)
	wantWork(t, m, c, "clerk", "p.1+d; "+a+"; p.1/b.1: disable manualStart; "+rest+"; p.1/s.1: disable manualStart")
	wantWork(t, m, c, "nobody", "")
	wantWork(t, m, c, "boss", "")
}

// TestP36_2Planned has the table of each Active stage behind what can be done to it, in the order of the table.
func TestP36_2Planned(t *testing.T) {
	const s, n = "p.1/s.1: fault suspend terminate", "p.1/s.1/n.1: complete fault suspend terminate; p.1/s.1/n.1+z"
	c := cased("p.1=4 p.1/s.1=4 p.1/s.1/n.1=4 p.1/s.1/t.1=2")
	const t1 = "p.1/s.1/t.1: disable manualStart"
	wantWork(t, office(), c, "", "p.1: fault suspend terminate; p.1/s.1+y; "+n+"; "+t1)
	wantWork(t, office(), c, "boss", "p.1: fault suspend terminate; p.1+d; p.1/s.1+y; p.1/s.1+x; "+n+"; "+t1)
	wantWork(t, office(), c, "clerk", "p.1: fault suspend terminate; p.1+d; "+s+"; p.1/s.1+y; "+n+"; "+t1)
	// Planning does not look at what is around the stage.
	wantWork(t, office(), cased("p.1=5 p.1/s.1=4"), "boss", "p.1: reactivate terminate close; p.1/s.1+y; p.1/s.1+x")
	wantWork(t, office(), cased("p.1/s.1=4"), "clerk", "p.1/s.1+y")
	for _, state := range []string{"0", "1", "2", "3", "5", "6<4", "7", "8", "9", "10", "-4"} {
		for _, k := range report.Work(office(), cased("p.1=4 p.1/s.1="+state), "boss") {
			if k.Verb == api.VerbPlan && k.Path != "p.1" {
				t.Errorf("%s: %+v", state, k)
			}
		}
	}
	// A table again and again.
	m := office()
	m.Plan.Table = slices.Concat(m.Plan.Table, m.Plan.Kids[:1], m.Plan.Table)
	wantWork(t, m, cased("p.1=4"), "boss", "p.1: complete fault suspend terminate; p.1+d; p.1+a; p.1+d")
}

// TestP36_2Events has each kind of items in each state.
func TestP36_2Events(t *testing.T) {
	for insts, want := range map[string]string{
		"p.1=4": "p.1: complete fault suspend terminate", "p.1=5": "p.1: reactivate terminate close",
		"p.1=6<4": "p.1: resume terminate close", "p.1=7": "p.1: close", "p.1=8": "p.1: close", "p.1=9": "", "p.1=1": "", "p.1=0": "",
		"p.1/a.1=1": "", "p.1/a.1=2": "p.1/a.1: disable manualStart", "p.1/a.1=3": "p.1/a.1: reenable", "p.1/a.1=4": "p.1/a.1: complete fault suspend terminate", "p.1/a.1=5": "p.1/a.1: reactivate terminate",
		"p.1/a.1=6<4": "p.1/a.1: resume terminate", "p.1/a.1=6<1": "p.1/a.1: terminate", "p.1/a.1=6<14": "p.1/a.1: terminate", "p.1/a.1=7": "", "p.1/a.1=8": "", "p.1/a.1=9": "",
		"p.1/l.1=1": "p.1/l.1: suspend terminate occur", "p.1/l.1=6<1": "p.1/l.1: resume terminate", "p.1/l.1=6<11": "p.1/l.1: terminate", "p.1/l.1=7": "", "p.1/l.1=4": "",
		"p.1/m.1=1": "p.1/m.1: suspend terminate", "p.1/m.1=6<1": "p.1/m.1: resume terminate", "p.1/m.1=8": "",
		"p.1/s.1/w.1=1": "p.1/s.1/w.1: suspend terminate", "p.1/s.1/w.1=6<1": "p.1/s.1/w.1: resume terminate",
		"p.1/s.1/t.1=4": "p.1/s.1/t.1: complete fault suspend terminate", "p.1/s.1/v.1=4": "p.1/s.1/v.1: complete fault suspend terminate",
	} {
		m, c := office(), cased(insts)
		m.Plan.Kids[2].Roles = nil
		path := c.Insts[0].Path
		if path != "p.1" {
			c.Insts = append(c.Insts, cased("p.1=4 p.1/s.1=4").Insts...)
		}
		got := slices.DeleteFunc(report.Work(m, c, ""), func(k api.Command) bool { return k.Path != path })
		if s := spelt(t, got, 3, ""); s != want {
			t.Errorf("%s: %s, not %s", insts, s, want)
		}
	}
}

// Nothing is done in what is not Active, and a stage with what is Active or required in it is not completed.
func TestP36_2Above(t *testing.T) {
	for _, state := range []string{"0", "1", "2", "3", "5", "6<4", "7", "8", "9", "10", "14"} {
		wantWork(t, office(), cased("p.1=0 p.1/s.1="+state+" p.1/s.1/t.1=4"), "", "")
	}
	wantWork(t, office(), cased("p.1=0 p.1/s.1=4 p.1/s.1/t.1=3"), "", "p.1/s.1+y; p.1/s.1/t.1: reenable")
	wantWork(t, office(), cased("p.1/s.1/t.1=3"), "", "")
	const can, not = "p.1: fault suspend terminate; p.1/s.1: complete fault suspend terminate", "p.1: fault suspend terminate; p.1/s.1: fault suspend terminate"
	for insts, want := range map[string]string{
		"p.1/s.1/t.1=1": not, "p.1/s.1/t.1=2": not, "p.1/s.1/t.1=4": not, "p.1/s.1/t.1=6<4": not, "p.1/s.1/x.1=4": not,
		"": can, "p.1/s.1/t.1=3": can, "p.1/s.1/t.1=5 p.1/s.1/x.1=1 p.1/s.1/w.1=1": can,
	} {
		got := slices.DeleteFunc(report.Work(office(), cased("p.1=4 p.1/s.1=4 "+insts), "clerk"), func(k api.Command) bool {
			return k.Verb == api.VerbPlan || tree.Under(k.Path, "p.1/s.1")
		})
		if s := spelt(t, got, 3, "clerk"); s != want {
			t.Errorf("%s: %s, not %s", insts, s, want)
		}
	}
}

// TestP36_2Order has the instances as they stand in the case.
func TestP36_2Order(t *testing.T) {
	wantWork(t, office(), cased("p.1/a.10=3 p.1/s.1/n.1=4 p.1/a.2=3 p.1/s.1=2 p.1=4"), "", "p.1/a.10: reenable; p.1/s.1/n.1+z; p.1/a.2: reenable; p.1: complete fault suspend terminate")
}

// TestP36_2Odd has cases and models that no server has.
func TestP36_2Odd(t *testing.T) {
	wantWork(t, office(), api.Case{}, "", "")
	wantWork(t, api.Model{}, api.Case{}, "", "")
	wantWork(t, api.Model{}, cased(begun), "", "")
	wantWork(t, office(), cased("p.1=4~none p.1/a.1=4 p.1/s.1=4~none"), "boss", "p.1/a.1: complete fault suspend terminate")
	wantWork(t, office(), cased("p.1=4 p.1/none.1=4 p.1/l.1=3~a"), "", "p.1: complete fault suspend terminate; p.1/l.1: reenable")
	wantWork(t, office(), cased("a.1=4 p.2=4"), "", "p.2: complete fault suspend terminate")
	// Whether the model is valid is not checked, nor whose case it is.
	m, c := office(), cased("p.1=4")
	m.ID, m.Name, m.Plan.Kids[0].Name, c.Model, c.ID, c.Clock = "", "\x00", "\x00", "other", -7, -1
	wantWork(t, m, c, "boss", "p.1: complete fault suspend terminate; p.1+d")
	// An item of a table that is not the first one with its ID has the roles of that one.
	m = office()
	m.Plan.Table = []api.Item{{ID: "l", Kind: api.ItemHuman}, {ID: "b", Kind: api.ItemHuman, Roles: []string{"none"}}}
	wantWork(t, m, cased("p.1=4"), "clerk", "p.1: complete fault suspend terminate; p.1+b")
}

// TestP36_2Twice has two instances at one path: a command reaches the first one, so that the events are those of this one.
func TestP36_2Twice(t *testing.T) {
	wantWork(t, office(), cased("p.1=4 p.1/a.1=3 p.1/a.1=4"), "", "p.1: fault suspend terminate; p.1/a.1: reenable reenable")
	wantWork(t, office(), cased("p.1=4 p.1/s.1=4 p.1/s.1=3"), "", "p.1: fault suspend terminate; p.1/s.1+y")
	wantWork(t, office(), cased("p.1=4 p.1/s.1=3 p.1/s.1=4"), "clerk", "p.1: fault suspend terminate; p.1+d; p.1/s.1: reenable reenable")
	wantWork(t, office(), cased("p.1=4 p.1/s.1=4 p.1/s.1=4~a"), "", "p.1: fault suspend terminate; p.1/s.1+y") // a task has no table
	wantWork(t, office(), cased("p.1=4 p.1/s.1=4~a p.1/s.1=4"), "", "p.1: fault suspend terminate; p.1/s.1: complete fault suspend terminate complete fault suspend terminate")
	wantWork(t, office(), cased("p.1=4 p.1/s.1=4 p.1/s.1=4"), "", "p.1: fault suspend terminate; p.1/s.1+y; p.1/s.1+y")
}
