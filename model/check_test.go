package model

import (
	"math"
	"slices"
	"strconv"
	"strings"
	"testing"

	"dossier/api"
)

func wantCheck(t *testing.T, want api.Errno, what string, m api.Model) {
	t.Helper()
	if err := Check(m); err != want {
		t.Errorf("%s: error %d, want error %d", what, err, want)
	}
}

// changed is the sample with a change.
func changed(change func(m *api.Model)) api.Model {
	m := sample()
	change(&m)
	return m
}

// having is the sample with an item more, the last one of its plan's kids.
func having(i api.Item) api.Model {
	return changed(func(m *api.Model) { m.Plan.Kids = append(m.Plan.Kids, i) })
}

var validNames = []string{"a", "Z", "_", "_0", "active", "And", "nots", "TRUE", strings.Repeat("x", 64)}

var wrongNames = []string{"", " ", "a b", "a.b", "a#1", "1", "1a", "a-b", "\"a\"", "\u00e9", "a\x00", "\xff", "a\n",
	"and", "or", "not", "true", "false", "count", "number", strings.Repeat("x", 65), strings.Repeat("x", 1<<20)}

var validTitles = []string{"", " ", "a b", "<&>\"'", "\t\r\n", "\u00e9\u20ac\U0001f600", "not", strings.Repeat("x", 64), strings.Repeat("\u00e9", 32), strings.Repeat("\U00010000", 16), "\ufffd", "\ue000"}

var wrongTitles = []string{strings.Repeat("x", 65), strings.Repeat("\u00e9", 32) + "x", strings.Repeat("x", 1<<20), "\x00", "a\x1f", "\xff", "a\xc3", "\xed\xa0\x80", "\ufffe", "\uffff", "\x0b"}

func TestP13_1Good(t *testing.T) {
	wantCheck(t, api.OK, "sample", sample())
	wantCheck(t, api.OK, "an empty plan", api.Model{ID: "m", Plan: api.Item{ID: "p"}})
	wantCheck(t, api.OK, "the plan's ID is the model's", api.Model{ID: "m", Plan: api.Item{ID: "m"}})
	wantCheck(t, api.OK, "empty lists", api.Model{ID: "m", Roles: []string{}, Files: []api.FileItem{}, Plan: api.Item{ID: "p", Entry: []api.Sentry{}, Exit: []api.Sentry{}, Roles: []string{}, Kids: []api.Item{
		{ID: "w", Kind: api.ItemTimer, After: 1, Entry: []api.Sentry{}, Exit: []api.Sentry{}, Roles: []string{}, Kids: []api.Item{}, Table: []api.Item{}}}, Table: []api.Item{}}})
	wantCheck(t, api.ErrName, "nothing", api.Model{})
}

func TestP13_1HeadNames(t *testing.T) {
	for _, s := range validNames {
		wantCheck(t, api.OK, s, changed(func(m *api.Model) { m.ID = s }))
		wantCheck(t, api.OK, s, changed(func(m *api.Model) { m.Roles = append(m.Roles, s) }))
	}
	for _, s := range wrongNames {
		wantCheck(t, api.ErrName, s, changed(func(m *api.Model) { m.ID = s }))
		wantCheck(t, api.ErrName, s, changed(func(m *api.Model) { m.Roles = append(m.Roles, s) }))
		wantCheck(t, api.ErrName, s, changed(func(m *api.Model) { m.Roles[0] = s }))
	}
	for _, s := range validTitles {
		wantCheck(t, api.OK, s, changed(func(m *api.Model) { m.Name = s }))
	}
	for _, s := range wrongTitles {
		wantCheck(t, api.ErrName, s, changed(func(m *api.Model) { m.Name = s }))
	}
}

func TestP13_1HeadRoles(t *testing.T) {
	var many []string
	for k := range 17 {
		many = append(many, "r"+strconv.Itoa(k))
	}
	m := api.Model{ID: "m", Plan: stage("p"), Roles: many[:16]}
	wantCheck(t, api.OK, "16", m)
	m.Roles = many
	wantCheck(t, api.ErrFull, "17", m)
	m.Roles = slices.Repeat([]string{"a"}, 100000)
	wantCheck(t, api.ErrFull, "many equal ones", m)
	m.Roles = append(slices.Repeat([]string{"a"}, 100000), "not")
	wantCheck(t, api.ErrName, "a wrong one behind many", m)
	for k := range 15 {
		m.Roles = append(slices.Clone(many[:15]), many[k])
		wantCheck(t, api.ErrTwice, "twice", m)
	}
	wantCheck(t, api.ErrTwice, "two", changed(func(m *api.Model) { m.Roles = append(m.Roles, "clerk") }))
	wantCheck(t, api.OK, "case counts", changed(func(m *api.Model) { m.Roles = append(m.Roles, "Clerk") }))
}

func TestP13_1Files(t *testing.T) {
	for want, f := range map[api.Errno]api.FileItem{
		api.ErrName: {Name: "not"}, api.ErrTwice: {Name: "order"}, api.ErrKind: {Name: "x", Kind: 4}, api.ErrFull: {Name: "x", Refs: slices.Repeat([]string{"x"}, 9)}, api.OK: {Name: "x"},
	} {
		wantCheck(t, want, f.Name, changed(func(m *api.Model) { m.Files = append(m.Files, f) }))
	}
}

func TestP13_1Plan(t *testing.T) {
	for kind := -2; kind < 12; kind++ {
		if kind != api.ItemStage {
			wantCheck(t, api.ErrModel, "kind", api.Model{ID: "m", Plan: api.Item{ID: "p", Kind: kind}})
			wantCheck(t, api.ErrModel, "kind, with After", api.Model{ID: "m", Plan: api.Item{ID: "p", Kind: kind, After: 1}})
		}
	}
	for what, change := range map[string]func(*api.Item){
		"Entry":    func(i *api.Item) { i.Entry = []api.Sentry{after("true")} },
		"Manual":   func(i *api.Item) { i.Manual = "true" },
		"Required": func(i *api.Item) { i.Required = "true" },
		"Repeat":   func(i *api.Item) { i.Repeat = "true" },
		"Roles":    func(i *api.Item) { i.Roles = []string{"boss"} },
		"Free":     func(i *api.Item) { i.Free = true },
		"After":    func(i *api.Item) { i.After = 1 },
	} {
		wantCheck(t, api.ErrModel, what, changed(func(m *api.Model) { change(&m.Plan) }))
		// These two are errors of the item that the plan is, and so come behind those of its name.
		want := api.ErrModel
		if what == "Free" || what == "After" {
			want = api.ErrName
		}
		wantCheck(t, want, what+" and the ID", changed(func(m *api.Model) { change(&m.Plan); m.Plan.ID = "" }))
	}
}

func TestP13_1Number(t *testing.T) {
	wantCheck(t, api.OK, "200", plan(row("a", 199)...))
	wantCheck(t, api.ErrFull, "201", plan(row("a", 200)...))
	wantCheck(t, api.ErrFull, "many", plan(row("a", 100000)...))
	m := plan(stage("s", row("a", 99)...))
	m.Plan.Table = row("b", 99)
	wantCheck(t, api.OK, "200 in all", m)
	m.Plan.Kids[0].Table = row("c", 1)
	wantCheck(t, api.ErrFull, "201 in all", m)
	// All kids of a level are one piece of memory.
	shared := row("a", 1)
	for range 1000 {
		shared = []api.Item{stage("x", shared...), stage("y", shared...)}
	}
	wantCheck(t, api.ErrFull, "shared", plan(shared...))
}

func TestP13_1Depth(t *testing.T) {
	// The plan is the outermost one of 24.
	wantCheck(t, api.OK, "24", plan(nest(23)...))
	wantCheck(t, api.ErrFull, "25", plan(nest(24)...))
	wantCheck(t, api.ErrFull, "60000", plan(nest(60000)...))
	wantCheck(t, api.OK, "24 with a task", plan(nest(22, row("a", 90)...)...))
	wantCheck(t, api.ErrFull, "25 with a task", plan(append(row("b", 5), nest(23, task("t"))...)...))
	m := plan()
	m.Plan.Table = nest(22, api.Item{ID: "s", Table: row("b", 3)})
	wantCheck(t, api.ErrFull, "25 in tables", m)
	m.Plan.Table = nest(21, api.Item{ID: "s", Table: row("b", 3)})
	wantCheck(t, api.OK, "24 in tables", m)
}

func TestP13_1ItemNames(t *testing.T) {
	for _, s := range validNames {
		wantCheck(t, api.OK, s, having(task(s)))
	}
	for _, s := range wrongNames {
		wantCheck(t, api.ErrName, s, having(task(s)))
		wantCheck(t, api.ErrName, s, changed(func(m *api.Model) { m.Plan.ID = s }))
		wantCheck(t, api.ErrName, s, changed(func(m *api.Model) { m.Plan.Kids[1].Table[1].ID = s }))
	}
	for _, s := range validTitles {
		wantCheck(t, api.OK, s, having(api.Item{ID: "x", Name: s}))
		wantCheck(t, api.OK, s, changed(func(m *api.Model) { m.Plan.Name = s }))
	}
	for _, s := range wrongTitles {
		wantCheck(t, api.ErrName, s, having(api.Item{ID: "x", Name: s}))
		wantCheck(t, api.ErrName, s, changed(func(m *api.Model) { m.Plan.Name = s }))
	}
	for _, i := range Items(sample()) {
		wantCheck(t, api.ErrTwice, i.ID, having(task(i.ID)))
		wantCheck(t, api.ErrTwice, i.ID, having(stage("x", stage("y", task(i.ID)))))
	}
	wantCheck(t, api.ErrTwice, "twice in it", having(stage("x", task("x"))))
	wantCheck(t, api.ErrTwice, "kid and table", having(api.Item{ID: "x", Kids: row("a", 1), Table: row("a", 1)}))
	wantCheck(t, api.OK, "case counts", having(task("T")))
	wantCheck(t, api.OK, "the name of a role, a definition, the model", having(stage("clerk", task("order"), task("m"))))
}

// fields sets one field of an item each.
func fields() map[string]func(*api.Item) {
	return map[string]func(*api.Item){
		"Entry":    func(i *api.Item) { i.Entry = []api.Sentry{after("true")} },
		"Exit":     func(i *api.Item) { i.Exit = []api.Sentry{after("true")} },
		"Manual":   func(i *api.Item) { i.Manual = "true" },
		"Required": func(i *api.Item) { i.Required = "true" },
		"Repeat":   func(i *api.Item) { i.Repeat = "true" },
		"Roles":    func(i *api.Item) { i.Roles = []string{"boss"} },
		"Auto":     func(i *api.Item) { i.Auto = true },
		"Free":     func(i *api.Item) { i.Free = true },
		"After":    func(i *api.Item) { i.After = 7 },
		"Kids":     func(i *api.Item) { i.Kids = row("kid", 1) },
		"Table":    func(i *api.Item) { i.Table = row("choice", 1) },
	}
}

func TestP13_1Fields(t *testing.T) {
	may := map[int]string{
		api.ItemStage: "Entry Exit Manual Required Repeat Roles Auto Kids Table",
		api.ItemHuman: "Entry Exit Manual Required Repeat Roles Free", api.ItemProcess: "Entry Exit Manual Required Repeat Roles Free",
		api.ItemCase: "Entry Exit Manual Required Repeat Roles Free", api.ItemDecision: "Entry Exit Manual Required Repeat Roles Free",
		api.ItemMilestone: "Entry Required Repeat", api.ItemListener: "Roles", api.ItemTimer: "After",
	}
	for kind, names := range may {
		for name, set := range fields() {
			i := api.Item{ID: "x", Kind: kind}
			if kind == api.ItemTimer {
				i.After = 1
			}
			set(&i)
			want := api.ErrModel
			if slices.Contains(strings.Fields(names), name) {
				want = api.OK
			}
			wantCheck(t, want, strconv.Itoa(kind)+" with "+name, having(i))
		}
	}
	for _, kind := range []int{-1, 8, 9, 1 << 32, math.MinInt, math.MaxInt} {
		wantCheck(t, api.ErrModel, "kind", having(api.Item{ID: "x", Kind: kind}))
		wantCheck(t, api.ErrModel, "kind", having(api.Item{ID: "x", Kind: kind, After: 1}))
	}
}

func TestP13_1After(t *testing.T) {
	for _, n := range []int{1, 2, 1<<31 - 1, 1 << 31} {
		wantCheck(t, api.OK, strconv.Itoa(n), having(api.Item{ID: "x", Kind: api.ItemTimer, After: n}))
	}
	for _, n := range []int{0, -1, 1<<31 + 1, 1 << 32, 1<<32 + 1, math.MaxInt, math.MinInt} {
		wantCheck(t, api.ErrModel, strconv.Itoa(n), having(api.Item{ID: "x", Kind: api.ItemTimer, After: n}))
	}
	for _, n := range []int{-1, 1, 1 << 31, math.MinInt} {
		wantCheck(t, api.ErrModel, "a task", having(api.Item{ID: "x", Kind: api.ItemHuman, After: n}))
	}
}

func TestP13_1ItemRoles(t *testing.T) {
	var many []string
	for k := range 16 {
		many = append(many, "r"+strconv.Itoa(k))
	}
	with := func(roles ...string) api.Model {
		i := task("x")
		i.Roles = roles
		m := plan(stage("s"), i)
		m.Roles = many
		return m
	}
	wantCheck(t, api.OK, "one", with("r3"))
	wantCheck(t, api.OK, "8", with(many[8:]...))
	wantCheck(t, api.ErrFull, "9", with(many[7:]...))
	wantCheck(t, api.ErrFull, "9 unknown ones", with(slices.Repeat([]string{"x"}, 9)...))
	wantCheck(t, api.ErrName, "unknown", with("r1", "r16"))
	wantCheck(t, api.ErrName, "empty", with(""))
	wantCheck(t, api.ErrName, "case counts", with("R1"))
	wantCheck(t, api.ErrName, "unknown and twice", with("r1", "r1", "x"))
	wantCheck(t, api.ErrTwice, "twice", with("r1", "r2", "r3", "r1"))
	wantCheck(t, api.ErrTwice, "8, two of them equal", with(append(slices.Clone(many[:7]), "r6")...))
	wantCheck(t, api.ErrName, "no roles in the model", plan(api.Item{ID: "x", Kind: api.ItemListener, Roles: []string{"r1"}}))
}

// sided is the sample with these sentries on one side of a further task.
func sided(entry bool, l ...api.Sentry) api.Model {
	i := task("x")
	i.Exit = l
	if entry {
		i.Entry, i.Exit = l, nil
	}
	return having(i)
}

func TestP13_1Sentries(t *testing.T) {
	some := after("true")
	part := on("t", api.EvComplete)
	for _, entry := range []bool{true, false} {
		wantCheck(t, api.OK, "8", sided(entry, slices.Repeat([]api.Sentry{some}, 8)...))
		wantCheck(t, api.ErrFull, "9", sided(entry, slices.Repeat([]api.Sentry{some}, 9)...))
		wantCheck(t, api.ErrFull, "9 empty ones", sided(entry, make([]api.Sentry, 9)...))
		wantCheck(t, api.OK, "8 on-parts", sided(entry, some, after("", slices.Repeat([]api.OnPart{part}, 8)...)))
		wantCheck(t, api.ErrFull, "9 on-parts", sided(entry, some, after("", slices.Repeat([]api.OnPart{part}, 9)...)))
		wantCheck(t, api.ErrFull, "9 empty on-parts", sided(entry, after("1 +", make([]api.OnPart, 9)...)))
		wantCheck(t, api.ErrModel, "nothing", sided(entry, some, api.Sentry{}))
		wantCheck(t, api.ErrModel, "nothing", sided(entry, api.Sentry{On: []api.OnPart{}}))
		wantCheck(t, api.OK, "on-part alone", sided(entry, after("", part)))
		wantCheck(t, api.OK, "If alone", sided(entry, some))
	}
	m := changed(func(m *api.Model) { m.Plan.Exit = slices.Repeat([]api.Sentry{some}, 8) })
	wantCheck(t, api.OK, "8 of the plan", m)
	m.Plan.Exit = append(m.Plan.Exit, some)
	wantCheck(t, api.ErrFull, "9 of the plan", m)
}

func TestP13_1OnParts(t *testing.T) {
	for _, entry := range []bool{true, false} {
		for want, parts := range map[api.Errno][]api.OnPart{
			api.OK: {on("p", api.EvFault), on("s", api.EvParentGo), on("g", api.EvOccur), on("j", api.EvCreate), on("d", api.EvExit), onFile("order", api.EvCreate), onFile("order.total", api.EvCutRef), onFile("note", api.EvReplace)},
			api.ErrModel: {{}, {Event: api.EvCreate}, {Item: "t", File: "order", Event: api.EvCreate}, {Item: "none", File: "none", Event: 99}, on("x", api.EvComplete), on("x", 99),
				on("t", api.EvOccur), on("t", api.EvClose), on("t", 0), on("t", api.EvUpdate), on("p", api.EvOccur), on("g", api.EvComplete), on("l", api.EvExit), on("w", api.EvStart), on("w", 99),
				onFile("order", 0), onFile("order", api.EvComplete), onFile("order", 20), onFile("order", 28), onFile("order.total", api.EvOccur)},
			api.ErrName: {on("none", api.EvCreate), on("T", api.EvCreate), on("order", api.EvCreate), on("m", 99), on("p.t", 99), on(" ", 1),
				onFile("none", api.EvCreate), onFile("total", api.EvCreate), onFile("order.none", 99), onFile("order#1", 99), onFile("order.", 99), onFile("t", 99), onFile(" ", 99), onFile(".", 1)},
		} {
			for _, o := range parts {
				wantCheck(t, want, "of "+o.Item+o.File, sided(entry, after("", o)))
				wantCheck(t, want, "behind another one of "+o.Item+o.File, sided(entry, after("true", on("t", api.EvStart), o)))
			}
		}
	}
	wantCheck(t, api.ErrModel, "the plan's own", changed(func(m *api.Model) { m.Plan.Exit[0].On[0].Item = "p" }))
	wantCheck(t, api.OK, "of an item inside it", changed(func(m *api.Model) { m.Plan.Kids[1].Entry[0].On = []api.OnPart{on("j", api.EvStart)} }))
}

// What check.Truth says of conditions.
var conditions = map[string]api.Errno{
	"true": api.OK, "order.total > 1": api.OK, "number(p, active) = 1 and number(d, enabled) < number(j, failed)": api.OK, " true ": api.OK,
	"1": api.ErrKind, "order": api.ErrKind, "none": api.ErrName, "number(none, active) = 1": api.ErrName, "number(order, active) = 1": api.ErrName, "count(t) = 1": api.ErrName,
	"true and": api.ErrParse, " ": api.ErrParse, "'": api.ErrWord, "count(order) > 0 and (order.total = \"\")": api.ErrKind, strings.Repeat(" ", 397) + "true": api.ErrFull,
}

func TestP13_1Conditions(t *testing.T) {
	for s, want := range conditions {
		wantCheck(t, want, s, sided(true, after(s)))
		wantCheck(t, want, s, sided(false, after("true"), after(s, on("t", api.EvStart))))
		wantCheck(t, want, s, changed(func(m *api.Model) { m.Plan.Exit[0].If = s }))
		for _, kind := range []int{api.ItemStage, api.ItemHuman, api.ItemDecision} {
			wantCheck(t, want, s, having(api.Item{ID: "x", Kind: kind, Manual: s}))
			wantCheck(t, want, s, having(api.Item{ID: "x", Kind: kind, Required: s}))
			wantCheck(t, want, s, having(api.Item{ID: "x", Kind: kind, Repeat: s}))
		}
		wantCheck(t, want, s, having(api.Item{ID: "x", Kind: api.ItemMilestone, Required: s}))
		wantCheck(t, want, s, having(api.Item{ID: "x", Kind: api.ItemMilestone, Repeat: s}))
	}
}

// A fault is one of the sample, with its error.
type fault struct {
	what string
	err  api.Errno
	add  func(m *api.Model)
}

// faultsOfItem are those of the item that at finds, in their order: first those of the first round over the items, then those of the second one.
func faultsOfItem(name string, at func(m *api.Model) *api.Item) (first, second []fault) {
	of := func(what string, err api.Errno, add func(i *api.Item)) fault {
		return fault{name + ": " + what, err, func(m *api.Model) { add(at(m)) }}
	}
	first = []fault{
		of("ID", api.ErrName, func(i *api.Item) { i.ID = "1" }),
		of("Name", api.ErrName, func(i *api.Item) { i.Name = "\x01" }),
		of("ID twice", api.ErrTwice, func(i *api.Item) { i.ID = "p" }),
		of("After", api.ErrModel, func(i *api.Item) { i.After = -1 }),
		of("9 roles", api.ErrFull, func(i *api.Item) { i.Roles = append(i.Roles, make([]string, 9)...) }),
		of("role", api.ErrName, func(i *api.Item) { i.Roles = append(i.Roles, "none") }),
		of("role twice", api.ErrTwice, func(i *api.Item) { i.Roles = append(i.Roles, i.Roles[0]) }),
	}
	for _, name := range []string{"Entry", "Exit"} {
		side := func(i *api.Item) *[]api.Sentry {
			if name == "Entry" {
				return &i.Entry
			}
			return &i.Exit
		}
		second = append(second,
			of(name+" 9", api.ErrFull, func(i *api.Item) { l := side(i); *l = append(*l, make([]api.Sentry, 9)...) }),
			of(name+" 9 on-parts", api.ErrFull, func(i *api.Item) { l := *side(i); l[0].On = append(l[0].On, make([]api.OnPart, 9)...) }),
			of(name+" nothing", api.ErrModel, func(i *api.Item) { l := *side(i); l[0] = api.Sentry{} }),
			of(name+" neither", api.ErrModel, func(i *api.Item) { l := *side(i); l[0].On = append([]api.OnPart{{}}, l[0].On...) }),
			of(name+" source", api.ErrName, func(i *api.Item) { l := *side(i); l[0].On = append([]api.OnPart{on("none", 99)}, l[0].On...) }),
			of(name+" event", api.ErrModel, func(i *api.Item) { l := *side(i); l[0].On = append(l[0].On, on("d", 99)) }),
			of(name+" If", api.ErrParse, func(i *api.Item) { l := *side(i); l[0].If = ")" }),
			of(name+" second", api.ErrModel, func(i *api.Item) { l := side(i); *l = append(*l, api.Sentry{}) }))
	}
	second = append(second,
		of("Manual", api.ErrParse, func(i *api.Item) { i.Manual = "(" }),
		of("Required", api.ErrKind, func(i *api.Item) { i.Required = "1" }),
		of("Repeat", api.ErrName, func(i *api.Item) { i.Repeat = "none" }))
	return first, second
}

// faults are faults of the sample in the order in which they are found.
func faults() []fault {
	l := []fault{
		{"model: ID", api.ErrName, func(m *api.Model) { m.ID = "" }},
		{"model: Name", api.ErrName, func(m *api.Model) { m.Name = "\x00" }},
		{"model: role", api.ErrName, func(m *api.Model) { m.Roles = append(m.Roles, "not") }},
		{"model: 17 roles", api.ErrFull, func(m *api.Model) { m.Roles = append(m.Roles, slices.Repeat([]string{"r"}, 20)...) }},
		{"model: role twice", api.ErrTwice, func(m *api.Model) { m.Roles = append(m.Roles, "boss") }},
		{"model: Files", api.ErrKind, func(m *api.Model) { m.Files = append(m.Files, api.FileItem{Name: "x", Kind: 9}) }},
		{"plan", api.ErrModel, func(m *api.Model) { m.Plan.Required = "1" }},
		{"items", api.ErrFull, func(m *api.Model) { m.Plan.Table = append(m.Plan.Table, row("d", 300)...) }},
		{"plan: ID", api.ErrName, func(m *api.Model) { m.Plan.ID = "" }},
		{"plan: Free", api.ErrModel, func(m *api.Model) { m.Plan.Free = true }},
	}
	taskFirst, taskSecond := faultsOfItem("task", func(m *api.Model) *api.Item { return &m.Plan.Kids[0] })
	stageFirst, stageSecond := faultsOfItem("stage", func(m *api.Model) *api.Item { return &m.Plan.Kids[1] })
	kid := fault{"kid: kind", api.ErrModel, func(m *api.Model) { m.Plan.Kids[1].Kids[1].Kids[0].Kind = 77 }}
	choice := fault{"table: name", api.ErrName, func(m *api.Model) { m.Plan.Kids[1].Table[0].Name = "\xff" }}
	last := fault{"last: ID", api.ErrTwice, func(m *api.Model) { m.Plan.Table[0].ID = "v" }}
	planExit := fault{"plan: Exit", api.ErrModel, func(m *api.Model) { m.Plan.Exit[0].On[0].Event = api.EvOccur }}
	choiceExit := fault{"table: Exit", api.ErrWord, func(m *api.Model) { m.Plan.Kids[1].Table[1].Exit[0].If = "?" }}
	lastRule := fault{"last: Required", api.ErrKind, func(m *api.Model) { m.Plan.Table[0].Required = "2" }}
	return slices.Concat(l, taskFirst, stageFirst, []fault{kid, choice, last, planExit}, taskSecond, stageSecond, []fault{choiceExit, lastRule})
}

func TestP13_1FirstError(t *testing.T) {
	l := faults()
	for k, f := range l {
		wantCheck(t, f.err, f.what, changed(f.add))
		for _, later := range l[k+1:] {
			both := changed(func(m *api.Model) { later.add(m); f.add(m) })
			wantCheck(t, f.err, f.what+", "+later.what, both)
		}
	}
}
