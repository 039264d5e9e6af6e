package engine_test

import (
	"math"
	"reflect"
	"slices"
	"strconv"
	"strings"
	"testing"

	"dossier/api"
	"dossier/engine"
	"dossier/model"
	"dossier/tree"
)

// on is a sentry that waits for all of some events, such as "a complete" and, of the case file, "order# update".
func on(events ...string) []api.Sentry {
	s := api.Sentry{}
	for _, e := range events {
		source, name, _ := strings.Cut(e, " ")
		event, _ := model.EventOf(name)
		if file, is := strings.CutSuffix(source, "#"); is {
			s.On = append(s.On, api.OnPart{File: file, Event: event})
		} else {
			s.On = append(s.On, api.OnPart{Item: source, Event: event})
		}
	}
	return []api.Sentry{s}
}

// office is a model in which all verbs find something to do. It is a valid one.
func office() api.Model {
	s := api.Item{ID: "s", Kind: api.ItemStage, Roles: []string{"clerk"}, Manual: "true", Kids: []api.Item{
		{ID: "t", Kind: api.ItemHuman, Required: "true", Manual: "true"},
		{ID: "w", Kind: api.ItemTimer, After: 5},
		{ID: "v", Kind: api.ItemProcess, Entry: on("w occur")},
	}, Table: []api.Item{{ID: "x", Kind: api.ItemHuman, Roles: []string{"boss"}, Repeat: "true"}, {ID: "y", Kind: api.ItemTimer, After: 1}}}
	return api.Model{ID: "office", Roles: []string{"boss", "clerk"}, Files: []api.FileItem{
		{Name: "order", Multi: api.MultiAny, Refs: []string{"order"}, Kids: []api.FileItem{{Name: "total", Kind: api.KindInt}}},
	}, Plan: api.Item{ID: "p", Kids: []api.Item{
		{ID: "a", Kind: api.ItemHuman, Repeat: "number(a, completed) < 3"},
		{ID: "b", Kind: api.ItemHuman, Manual: "true", Roles: []string{"boss", "clerk"}},
		{ID: "c", Kind: api.ItemDecision, Entry: on("a complete", "b complete"), Exit: on("l occur")},
		{ID: "l", Kind: api.ItemListener, Roles: []string{"boss"}},
		{ID: "m", Kind: api.ItemMilestone, Entry: on("order# create", "order.total# update")},
		s,
		{ID: "o", Kind: api.ItemTimer, After: 3},
	}}}
}

// begun is the office's case as it begins.
const begun = "p.1=4 p.1/a.1=4 p.1/b.1=2 p.1/c.1=1:0,0 p.1/l.1=1 p.1/m.1=1:0 p.1/o.1=1@3 p.1/s.1=2"

// spelt is the instances of a case as a text such as "p.1=4 p.1/s.1=6<14:0,1@5": path, state, the state before, latches and due time, if there are any.
func spelt(c api.Case) string {
	var l []string
	for _, x := range c.Insts {
		s := x.Path + "=" + strconv.Itoa(x.State)
		if x.Before != 0 {
			s += "<" + strconv.Itoa(x.Before)
		}
		for k, latch := range x.Latches {
			s += string(":,"[min(k, 1)]) + strconv.Itoa(latch)
		}
		if x.Due != 0 {
			s += "@" + strconv.Itoa(x.Due)
		}
		if item, _ := tree.Last(x.Path); item != x.Item {
			s += "~" + x.Item
		}
		l = append(l, s)
	}
	return strings.Join(l, " ")
}

// cased makes a case of the office from such a text.
func cased(insts string) api.Case {
	c := api.Case{ID: 3, Model: "office", Docs: []api.Doc{{Path: "order#1", Refs: []string{"order#2"}}, {Path: "order#1.total#1"}, {Path: "order#2"}}}
	for s := range strings.FieldsSeq(insts) {
		var x api.Inst
		s, x.Item, _ = strings.Cut(s, "~")
		s, due, _ := strings.Cut(s, "@")
		s, latches, some := strings.Cut(s, ":")
		path, numbers, _ := strings.Cut(s, "=")
		state, before, _ := strings.Cut(numbers, "<")
		x.Path = path
		if x.Item == "" {
			x.Item, _ = tree.Last(path)
		}
		x.State, _ = strconv.Atoi(state)
		x.Before, _ = strconv.Atoi(before)
		x.Due, _ = strconv.Atoi(due)
		for latch := range strings.SplitSeq(latches, ",") {
			if n, err := strconv.Atoi(latch); some && err == nil {
				x.Latches = append(x.Latches, n)
			}
		}
		c.Insts = append(c.Insts, x)
	}
	return c
}

func do(role, path, name string) api.Command {
	event, _ := model.EventOf(name)
	return api.Command{Verb: api.VerbDo, Case: 3, Role: role, Path: path, Event: event}
}

func plan(role, path, name string) api.Command {
	return api.Command{Verb: api.VerbPlan, Case: 3, Role: role, Path: path, Name: name}
}

func file(role string, event int, path, name string, v api.Value) api.Command {
	return api.Command{Verb: api.VerbFile, Case: 3, Role: role, Event: event, Path: path, Name: name, Value: v}
}

func tick(role string, n int) api.Command {
	return api.Command{Verb: api.VerbTick, Case: 3, Role: role, Int: n}
}

func number(n int) api.Value { return api.Value{Kind: api.KindInt, Int: n} }

// orders are some of all kinds.
func orders() [][]int {
	return [][]int{nil, {0}, {1}, {-1}, {2, 0, 1}, {math.MaxInt, math.MinInt, 1 << 40, 3}}
}

// limits are some that make no difference to what is refused for another reason.
var limits = []int{math.MinInt, -1, 0, 1, 2, 8, api.MaxInst, math.MaxInt}

// wantDo holds what becomes of a case, except for its instances as another one, and of these as a text. It returns the case.
func wantDo(t *testing.T, m api.Model, c api.Case, k api.Command, want api.Case, insts string, rounds, moves int) api.Case {
	t.Helper()
	want.Insts = cased(insts).Insts
	for _, order := range orders() {
		for _, most := range []int{len(want.Insts), api.MaxInst, math.MaxInt} {
			got, g, err := engine.Do(m, c, k, order, most)
			if err != api.OK || g != (api.Gauge{Rounds: rounds, Moves: moves}) || !tree.Same(got, want) {
				t.Errorf("%+v, order %v, most %d: error %d, %+v\n%s\n%+v, %d, want %d rounds, %d moves\n%s\n%+v, %d", k, order, most, err, g, spelt(got), got.Docs, got.Clock, rounds, moves, spelt(want), want.Docs, want.Clock)
				return want
			}
		}
	}
	if len(want.Insts) > len(c.Insts) {
		wantError(t, m, c, k, api.ErrBudget, len(want.Insts)-1, len(c.Insts), 0, -1, math.MinInt)
	}
	return want
}

// wantInsts is the same for a command that changes instances only.
func wantInsts(t *testing.T, c api.Case, k api.Command, insts string, rounds, moves int) api.Case {
	t.Helper()
	return wantDo(t, office(), c, k, c, insts, rounds, moves)
}

// wantError holds an error for several limits.
func wantError(t *testing.T, m api.Model, c api.Case, k api.Command, want api.Errno, limits ...int) {
	t.Helper()
	for _, most := range limits {
		got, g, err := engine.Do(m, c, k, []int{1}, most)
		if err != want || g != (api.Gauge{}) || !reflect.DeepEqual(got, api.Case{}) {
			t.Errorf("%+v, most %d: error %d, %+v, %s, want error %d alone", k, most, err, g, spelt(got), want)
		}
	}
}

func wantRefused(t *testing.T, c api.Case, k api.Command, want api.Errno) {
	t.Helper()
	wantError(t, office(), c, k, want, limits...)
}

// wantRoles holds that a command can be given by these roles and by no others, whatever the limit.
func wantRoles(t *testing.T, c api.Case, k api.Command, may ...string) {
	t.Helper()
	for _, role := range []string{"", "boss", "clerk", "Boss", "boss ", "nobody", "a", "\xff", strings.Repeat("x", 5000)} {
		k.Role = role
		_, _, err := engine.Do(office(), c, k, nil, api.MaxInst)
		if is := slices.Contains(may, role); is && err != api.OK {
			t.Errorf("%+v: error %d", k, err)
		} else if !is {
			wantRefused(t, c, k, api.ErrRole)
		}
	}
}

func TestP29_1New(t *testing.T) {
	m := office()
	for _, id := range []int{1, 20, 0, -7, math.MinInt, math.MaxInt} {
		for _, order := range orders() {
			for _, most := range []int{8, 9, api.MaxInst, math.MaxInt} {
				c, g, err := engine.New(m, id, order, most)
				if err != api.OK || g != (api.Gauge{Rounds: 2, Moves: 3}) || spelt(c) != begun || c.ID != id || c.Model != "office" || c.Clock != 0 || len(c.Docs) > 0 {
					t.Errorf("New(%d, %v, %d): error %d, %+v, %+v", id, order, most, err, g, c)
				}
			}
		}
	}
}

func wantNoCase(t *testing.T, m api.Model, most int, want api.Errno) {
	t.Helper()
	c, g, err := engine.New(m, 1, []int{2, 1}, most)
	if err != want || g != (api.Gauge{}) || !reflect.DeepEqual(c, api.Case{}) {
		t.Errorf("most %d: error %d, %+v, %+v, want error %d alone", most, err, g, c, want)
	}
}

func TestP29_1NewErrors(t *testing.T) {
	for _, most := range []int{math.MinInt, -1, 0, 1, 7} {
		wantNoCase(t, office(), most, api.ErrBudget)
	}
	for _, m := range invalid() {
		for _, most := range limits {
			wantNoCase(t, m, most, api.ErrArg)
		}
	}
	// What follows by itself can be too much, too.
	m := office()
	m.Plan.Kids[5].Manual = ""
	for most := 8; most < 11; most++ {
		wantNoCase(t, m, most, api.ErrBudget)
	}
	if c, g, err := engine.New(m, 1, nil, 11); err != api.OK || g != (api.Gauge{Rounds: 3, Moves: 4}) || len(c.Insts) != 11 {
		t.Error(err, g, spelt(c))
	}
	m.Plan.Kids = []api.Item{{ID: "e", Kind: api.ItemMilestone, Entry: []api.Sentry{{If: "true"}}, Repeat: "true"}}
	for _, most := range []int{1, 2, 3, api.MaxInst} {
		wantNoCase(t, m, most, api.ErrBudget) // without end
	}
}

// What happens as a case begins is seen by whoever waits for it.
func TestP29_1NewEvents(t *testing.T) {
	m := office()
	m.Plan.Kids[4].Entry = on("a create", "o create")
	c, g, err := engine.New(m, 1, nil, 8)
	if want := strings.Replace(begun, "m.1=1:0", "m.1=7:0", 1); err != api.OK || g != (api.Gauge{Rounds: 2, Moves: 4}) || spelt(c) != want {
		t.Errorf("error %d, %+v, %s, want %s", err, g, spelt(c), want)
	}
}

// invalid are models that are not valid, for several reasons.
func invalid() []api.Model {
	l := []api.Model{{}, office(), office(), office(), office(), office(), office()}
	l[1].ID = ""
	l[2].Plan.Kids[2].Entry[0].On[0].Item = "nobody"
	l[3].Plan.Kids[0].Repeat = "1"
	l[4].Files = append(l[4].Files, l[4].Files...)
	l[5].Plan.Kids = append(l[5].Plan.Kids, l[5].Plan.Kids[6])
	l[6].Plan.Kids[5].Roles = []string{"nobody"}
	return l
}

// asked are the events that commands can request, as the chapter has them.
func asked(kind int, root bool) string {
	switch {
	case kind == api.ItemStage && root:
		return "complete fault reactivate suspend resume terminate close"
	case root:
		return ""
	case kind == api.ItemListener:
		return "occur suspend resume terminate"
	case kind == api.ItemMilestone, kind == api.ItemTimer:
		return "suspend resume terminate"
	case kind >= 0 && kind <= 4:
		return "disable reenable manualStart complete fault reactivate suspend resume terminate"
	}
	return ""
}

func TestP29_1Asked(t *testing.T) {
	for _, kind := range []int{math.MinInt, -1, 0, 1, 2, 3, 4, 5, 6, 7, 8, 9, 64, 256, 1 << 32, math.MaxInt} {
		for _, root := range []bool{false, true} {
			want := strings.Fields(asked(kind, root))
			for event := -70; event <= 300; event++ {
				if is := slices.Contains(want, model.EventName(event)); engine.Asked(kind, root, event) != is {
					t.Errorf("Asked(%d, %t, %d) = %t", kind, root, event, !is)
				}
			}
			for _, event := range []int{math.MinInt, 1<<32 + api.EvSuspend, math.MinInt + api.EvSuspend, -api.EvSuspend, math.MaxInt} {
				if engine.Asked(kind, root, event) {
					t.Errorf("Asked(%d, %t, %d)", kind, root, event)
				}
			}
		}
	}
}

// A model that is not valid is the first thing that can be wrong.
func TestP29_2Model(t *testing.T) {
	for _, m := range invalid() {
		for _, k := range []api.Command{{}, {Verb: 77}, {Verb: api.VerbLook}, do("", "p.1/a.1", "complete"), do("nobody", "", ""), plan("", "p.1/s.1", "x"), tick("", 1), tick("nobody", -1), file("", 1, "", "order", api.Value{})} {
			wantError(t, m, cased(begun), k, api.ErrArg, limits...)
			wantError(t, m, api.Case{}, k, api.ErrArg, limits...)
		}
	}
}

func TestP29_2Verb(t *testing.T) {
	for _, verb := range []int{math.MinInt, -1, 0, api.VerbDeploy, api.VerbCreate, api.VerbLook, api.VerbList, api.VerbCompact, 10, 16, 259, 1<<32 + 3, math.MaxInt} {
		for _, k := range []api.Command{{}, do("", "p.1/a.1", "complete"), do("nobody", "q.1", ""), plan("boss", "p.1/s.1", "x"), tick("", -1)} {
			k.Verb = verb
			wantRefused(t, cased(begun), k, api.ErrVerb)
			wantRefused(t, api.Case{}, k, api.ErrVerb)
		}
	}
}

func TestP29_2Do(t *testing.T) {
	c := cased(begun)
	// One that repeats comes once more; the sentry of c has the first of two events.
	c = wantInsts(t, c, do("", "p.1/a.1", "complete"), "p.1=4 p.1/a.1=7 p.1/a.2=4 p.1/b.1=2 p.1/c.1=1:1,0 p.1/l.1=1 p.1/m.1=1:0 p.1/o.1=1@3 p.1/s.1=2", 2, 1)
	c = wantInsts(t, c, do("boss", "p.1/b.1", "manualStart"), "p.1=4 p.1/a.1=7 p.1/a.2=4 p.1/b.1=4 p.1/c.1=1:1,0 p.1/l.1=1 p.1/m.1=1:0 p.1/o.1=1@3 p.1/s.1=2", 1, 0)
	c = wantInsts(t, c, do("clerk", "p.1/b.1", "complete"), "p.1=4 p.1/a.1=7 p.1/a.2=4 p.1/b.1=7 p.1/c.1=4:0,0 p.1/l.1=1 p.1/m.1=1:0 p.1/o.1=1@3 p.1/s.1=2", 2, 1)
	c = wantInsts(t, c, do("boss", "p.1/l.1", "occur"), "p.1=4 p.1/a.1=7 p.1/a.2=4 p.1/b.1=7 p.1/c.1=8:0,1 p.1/l.1=7 p.1/m.1=1:0 p.1/o.1=1@3 p.1/s.1=2", 2, 1)
	// The kids of a stage come with it: a timer is due as of now.
	c.Clock = 100
	c = wantInsts(t, c, do("clerk", "p.1/s.1", "manualStart"), "p.1=4 p.1/a.1=7 p.1/a.2=4 p.1/b.1=7 p.1/c.1=8:0,1 p.1/l.1=7 p.1/m.1=1:0 p.1/o.1=1@3 p.1/s.1=4 p.1/s.1/t.1=2 p.1/s.1/v.1=1:0 p.1/s.1/w.1=1@105", 2, 1)
	// Suspended and resumed, everything below is as before.
	suspended := wantInsts(t, c, do("", "p.1", "suspend"), "p.1=6<4 p.1/a.1=7 p.1/a.2=6<14 p.1/b.1=7 p.1/c.1=8:0,1 p.1/l.1=7 p.1/m.1=6<11:0 p.1/o.1=6<11@3 p.1/s.1=6<14 p.1/s.1/t.1=6<12 p.1/s.1/v.1=6<11:0 p.1/s.1/w.1=6<11@105", 1, 0)
	wantInsts(t, suspended, do("", "p.1", "resume"), spelt(c), 1, 0)
	wantInsts(t, suspended, do("", "p.1", "close"), "p.1=9 p.1/a.1=7 p.1/a.2=8 p.1/b.1=7 p.1/c.1=8:0,1 p.1/l.1=7 p.1/m.1=8:0 p.1/o.1=8@3 p.1/s.1=8 p.1/s.1/t.1=8 p.1/s.1/v.1=8:0 p.1/s.1/w.1=8@105", 1, 0)
	// What is terminated comes once more, too; what fails does not.
	wantInsts(t, c, do("", "p.1/a.2", "terminate"), "p.1=4 p.1/a.1=7 p.1/a.2=8 p.1/a.3=4 p.1/b.1=7 p.1/c.1=8:0,1 p.1/l.1=7 p.1/m.1=1:0 p.1/o.1=1@3 p.1/s.1=4 p.1/s.1/t.1=2 p.1/s.1/v.1=1:0 p.1/s.1/w.1=1@105", 2, 1)
	c = wantInsts(t, c, do("", "p.1/a.2", "fault"), strings.Replace(spelt(c), "a.2=4", "a.2=5", 1), 1, 0)
	c = wantInsts(t, c, do("", "p.1/a.2", "reactivate"), strings.Replace(spelt(c), "a.2=5", "a.2=4", 1), 1, 0)
	c = wantInsts(t, c, do("", "p.1/s.1/t.1", "disable"), strings.Replace(spelt(c), "t.1=2", "t.1=3", 1), 1, 0)
	wantInsts(t, c, do("clerk", "p.1/s.1", "complete"), "p.1=4 p.1/a.1=7 p.1/a.2=4 p.1/b.1=7 p.1/c.1=8:0,1 p.1/l.1=7 p.1/m.1=1:0 p.1/o.1=1@3 p.1/s.1=7 p.1/s.1/t.1=8 p.1/s.1/v.1=8:0 p.1/s.1/w.1=8@105", 1, 0)
}
