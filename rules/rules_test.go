package rules

import (
	"math"
	"reflect"
	"strconv"
	"strings"
	"testing"

	"dossier/api"
	"dossier/model"
	"dossier/tree"
)

// Conditions that hold, and that do not, by the case file of these tests; the last two are none.
const (
	holds   = "f > 5"
	fails   = "f < 5"
	unknown = "1 / 0 = 1 or true"
	number  = "f"
	wrong   = "f >"
)

var (
	open  = []api.Sentry{{If: holds}}
	shut  = []api.Sentry{{If: fails}}
	waits = []api.Sentry{{On: []api.OnPart{{Item: "o", Event: api.EvComplete}}}}
)

// office is a model in which x is such an item, in a stage of the plan.
func office(x api.Item) api.Model {
	x.ID = "x"
	stage := api.Item{ID: "s", Kind: api.ItemStage, Kids: []api.Item{x}, Table: []api.Item{{ID: "d", Kind: api.ItemCase, Repeat: holds}}}
	return api.Model{ID: "office", Files: []api.FileItem{{Name: "f", Kind: api.KindInt}}, Plan: api.Item{ID: "p", Kids: []api.Item{{ID: "o", Kind: api.ItemHuman}, stage}}}
}

// cased makes a case of instances such as "p.1/s.1=6<14:0,1": the path, the state, the state before and the latches, if there are any.
func cased(insts string) api.Case {
	c := api.Case{ID: 3, Model: "office", Clock: 7, Docs: []api.Doc{{Path: "f#1", Value: api.Value{Kind: api.KindInt, Int: 9}, Refs: []string{"f#1"}}}}
	for s := range strings.FieldsSeq(insts) {
		s, latches, some := strings.Cut(s, ":")
		path, numbers, _ := strings.Cut(s, "=")
		state, before, _ := strings.Cut(numbers, "<")
		x := api.Inst{Path: path}
		x.Item, _ = tree.Last(path)
		x.State, _ = strconv.Atoi(state)
		x.Before, _ = strconv.Atoi(before)
		for latch := range strings.SplitSeq(latches, ",") {
			if n, err := strconv.Atoi(latch); some && err == nil {
				x.Latches = append(x.Latches, n)
			}
		}
		c.Insts = append(c.Insts, x)
	}
	return c
}

// wantFire holds what an instance does by itself: nothing, or an event by its name, with "again" behind it if a further instance comes.
func wantFire(t *testing.T, m api.Model, c api.Case, path, want string) {
	t.Helper()
	f, is := Fire(m, c, path)
	got := ""
	if is {
		got = model.EventName(f.Event)
		if f.Again {
			got += " again"
		}
	}
	if got != want || is && f.Path != path || !is && f != (api.Firing{}) {
		t.Errorf("%s of %+v in %+v: %q, %+v, want %q", path, m.Plan.Kids, c.Insts, got, f, want)
	}
}

// wantX holds what x does, in a state and with latches such as "1:0,0", in an Active stage.
func wantX(t *testing.T, x api.Item, state, want string) {
	t.Helper()
	wantFire(t, office(x), cased("p.1=4 p.1/s.1=4 p.1/s.1/x.1="+state), "p.1/s.1/x.1", want)
}

func TestOffice(t *testing.T) {
	m := office(api.Item{Kind: api.ItemHuman, Entry: waits, Exit: open, Manual: fails, Required: unknown, Repeat: holds})
	if err := model.Check(m); err != api.OK {
		t.Fatal(err)
	}
}

var works = [...]int{api.ItemStage, api.ItemHuman, api.ItemProcess, api.ItemCase, api.ItemDecision}

func TestP22_1Begin(t *testing.T) {
	for _, kind := range works {
		wantX(t, api.Item{Kind: kind}, "1", "start")
		for rule, event := range map[string]string{holds: "enable", fails: "start", unknown: "start", number: "start", wrong: "start", "true": "enable", "false": "start"} {
			wantX(t, api.Item{Kind: kind, Manual: rule}, "1", event)
			wantX(t, api.Item{Kind: kind, Manual: rule, Entry: waits}, "1:1", event)
		}
		wantX(t, api.Item{Kind: kind, Entry: waits}, "1:0", "")
		wantX(t, api.Item{Kind: kind, Entry: waits, Manual: holds}, "1:0", "")
		wantX(t, api.Item{Kind: kind, Free: true, Auto: true}, "1", "start")
	}
	wantX(t, api.Item{Kind: api.ItemMilestone}, "1", "occur")
	wantX(t, api.Item{Kind: api.ItemMilestone, Entry: waits}, "1:0", "")
	wantX(t, api.Item{Kind: api.ItemMilestone, Entry: waits}, "1:1", "occur")
	for _, rule := range []string{holds, fails} { // of a model made by hand
		wantX(t, api.Item{Kind: api.ItemMilestone, Manual: rule}, "1", "occur")
	}
	for _, kind := range []int{api.ItemListener, api.ItemTimer, -1, 8, math.MaxInt, math.MinInt} {
		for state := range 10 {
			wantX(t, api.Item{Kind: kind, Manual: holds}, strconv.Itoa(state), "")
			wantX(t, api.Item{Kind: kind, Entry: open, Exit: open}, strconv.Itoa(state)+":0,0", "")
		}
	}
}

func TestP22_1Entry(t *testing.T) {
	two := []api.Sentry{{If: fails, On: waits[0].On}, {If: holds, On: waits[0].On}}
	for _, kind := range []int{api.ItemHuman, api.ItemStage} {
		wantX(t, api.Item{Kind: kind, Entry: open}, "1:0", "start")
		wantX(t, api.Item{Kind: kind, Entry: shut}, "1:1", "")
		wantX(t, api.Item{Kind: kind, Entry: two}, "1:1,0", "")
		wantX(t, api.Item{Kind: kind, Entry: two}, "1:0,1", "start")
		wantX(t, api.Item{Kind: kind, Entry: two}, "1:0,2", "")
		// Entry is not exit, nor the other way round.
		wantX(t, api.Item{Kind: kind, Entry: waits, Exit: waits}, "1:1,0", "start")
		wantX(t, api.Item{Kind: kind, Entry: waits, Exit: waits}, "1:0,1", "exit")
		// One latch for each sentry; without sentries of Entry there is none to look at.
		for _, latches := range []string{"", ":", ":0,0", ":1,1,1"} {
			wantX(t, api.Item{Kind: kind, Entry: open}, "1"+latches, "")
		}
		wantX(t, api.Item{Kind: kind}, "1:7,7", "start")
		wantX(t, api.Item{Kind: kind, Exit: open}, "1", "start")
	}
}

// An exit goes first, in all states where there is one.
func TestP22_1Exit(t *testing.T) {
	for _, kind := range works {
		for state, is := range map[string]bool{"0": false, "1": true, "2": true, "3": true, "4": true, "5": true, "6<4": false, "6<14": false, "7": false, "8": false, "9": false, "-1": false, "10": false} {
			want := ""
			if is {
				want = "exit"
			}
			wantX(t, api.Item{Kind: kind, Exit: open}, state+":0", want)
			wantX(t, api.Item{Kind: kind, Exit: waits}, state+":1", want)
			wantX(t, api.Item{Kind: kind, Entry: open, Exit: open, Repeat: holds, Manual: holds}, state+":0,0", want)
			if state != "1" {
				wantX(t, api.Item{Kind: kind, Exit: shut}, state+":1", "")
				wantX(t, api.Item{Kind: kind, Entry: open}, state+":1", "")
				wantX(t, api.Item{Kind: kind}, state, "")
			}
		}
		wantX(t, api.Item{Kind: kind, Exit: shut}, "1:1", "start")
		wantX(t, api.Item{Kind: kind, Exit: waits}, "1:2", "start")
	}
	for _, state := range []string{"2", "3", "4", "5", "6<1", "7", "8", "9"} {
		wantX(t, api.Item{Kind: api.ItemMilestone, Exit: open}, state+":0", "")
	}
	wantX(t, api.Item{Kind: api.ItemMilestone, Exit: open}, "1:0", "occur") // made by hand: there is no exit of a milestone
}

func TestP22_1Again(t *testing.T) {
	for rule, is := range map[string]bool{"": false, holds: true, fails: false, unknown: false, number: false, wrong: false} {
		again := ""
		if is {
			again = " again"
		}
		for _, kind := range works {
			wantX(t, api.Item{Kind: kind, Entry: open, Repeat: rule}, "1:0", "start"+again)
			wantX(t, api.Item{Kind: kind, Entry: open, Repeat: rule, Manual: holds}, "1:0", "enable"+again)
			wantX(t, api.Item{Kind: kind, Repeat: rule}, "1", "start")
			wantX(t, api.Item{Kind: kind, Repeat: rule, Manual: holds}, "1", "enable")
			wantX(t, api.Item{Kind: kind, Repeat: rule, Exit: open}, "1:0", "exit")
			wantX(t, api.Item{Kind: kind, Entry: waits, Repeat: rule}, "1:0", "")
		}
		wantX(t, api.Item{Kind: api.ItemMilestone, Entry: open, Repeat: rule}, "1:0", "occur"+again)
		wantX(t, api.Item{Kind: api.ItemMilestone, Repeat: rule}, "1", "occur")
	}
}

// What is in a stage waits for it, also with its exit; the plan waits for nothing.
func TestP22_1Parent(t *testing.T) {
	m := office(api.Item{Kind: api.ItemHuman, Exit: waits})
	for state := -1; state <= 11; state++ {
		start, exit := "", ""
		if state == api.Active {
			start, exit = "start", "exit"
		}
		stage := "p.1/s.1=" + strconv.Itoa(state)
		wantFire(t, m, cased("p.1=4 "+stage+" p.1/s.1/x.1=1:0 p.1/s.2=4"), "p.1/s.1/x.1", start)
		wantFire(t, m, cased("p.1=4 "+stage+" p.1/s.1/x.1=4:1 p.1/s.2=4"), "p.1/s.1/x.1", exit)
		wantFire(t, m, cased("p.1=8 "+stage+" p.1/s.1/x.1=1:0"), "p.1/s.1/x.1", start) // of the one directly above it
		wantFire(t, m, cased(stage+" p.1/s.1/x.1=1:0"), "p.1/s.1/x.1", start)
		wantFire(t, m, cased("p.1="+strconv.Itoa(state)+" p.1/o.1=1"), "p.1/o.1", start)
	}
	for _, insts := range []string{"p.1=4 p.1/s.1/x.1=1:0", "p.1=4 p.1/s.2=4 p.1/s.1/x.1=1:0", "p.1/s.1/x.1=1:0"} {
		wantFire(t, m, cased(insts), "p.1/s.1/x.1", "")
	}
	// The item of the parent makes no difference.
	wantFire(t, m, cased("p.1=4 p.1/none.1=4 p.1/none.1/x.1=1:0"), "p.1/none.1/x.1", "start")
	wantFire(t, m, cased("p.1=4 p.1/o.1=4 p.1/o.1/p.1=1"), "p.1/o.1/p.1", "start")
}

func TestP22_1Plan(t *testing.T) {
	m := office(api.Item{Kind: api.ItemHuman})
	m.Plan.Exit = []api.Sentry{{If: holds, On: []api.OnPart{{File: "f", Event: api.EvUpdate}}}}
	for state := -1; state <= 11; state++ {
		want := ""
		if state == api.Active || state == api.Failed {
			want = "exit"
		}
		for _, before := range []string{"", "<4", "<14"} {
			wantFire(t, m, cased("p.1="+strconv.Itoa(state)+before+":1"), "p.1", want)
			wantFire(t, m, cased("p.1="+strconv.Itoa(state)+before+":0"), "p.1", "")
		}
	}
	// It never starts by itself, made by hand or not, and neither does anything else at the top.
	m.Plan.Exit, m.Plan.Entry, m.Plan.Repeat = nil, open, holds
	for state := range 10 {
		wantFire(t, m, cased("p.1="+strconv.Itoa(state)+":0"), "p.1", "")
		wantFire(t, m, cased("x.1="+strconv.Itoa(state)+" p.1=4"), "x.1", "")
		wantFire(t, m, cased("=4 s.1="+strconv.Itoa(state)+" p.1=4"), "s.1", "")
	}
}

func TestP22_1None(t *testing.T) {
	m := office(api.Item{Kind: api.ItemHuman})
	c := cased("p.1=4 p.1/s.1=4 p.1/s.1/x.1=1 p.1/s.1/none.1=1")
	for _, path := range []string{"", "p", "p.2", "p.1/s.1/", "p.1/s.1/x", "p.1/s.1/x.2", "x.1", "p.1/s.1/none.1", "p.1/s.1/none.2", "\xff"} {
		wantFire(t, m, c, path, "")
		wantFire(t, api.Model{}, c, path, "")
		wantFire(t, m, api.Case{}, path, "")
	}
	wantFire(t, api.Model{}, c, "p.1/s.1/x.1", "")
	// Item says whose item it is; of two at one path the first one counts.
	c.Insts[3].Item = "x"
	wantFire(t, m, c, "p.1/s.1/none.1", "start")
	c.Insts[2].Item = "none"
	wantFire(t, m, c, "p.1/s.1/x.1", "")
	c = cased("p.1=4 p.1/s.1=4 p.1/s.1=7 p.1/s.1/x.1=1 p.1/s.1/x.1=4")
	wantFire(t, m, c, "p.1/s.1/x.1", "start")
	c = cased("p.1=4 p.1/s.1=7 p.1/s.1=4 p.1/s.1/x.1=1")
	wantFire(t, m, c, "p.1/s.1/x.1", "")
}

// Rules are asked in the case as it is.
func TestP22_1Case(t *testing.T) {
	x := api.Item{Kind: api.ItemHuman, Entry: []api.Sentry{{If: "number(x, active) < 2"}}, Repeat: "number(x, available) < 2", Manual: "count(f) = 0"}
	wantX(t, x, "1:0", "start again")
	wantX(t, x, "1:0 p.1/s.1/x.2=4", "start again")
	wantX(t, x, "1:0 p.1/s.1/x.2=4 p.1/s.1/x.3=1", "start")
	wantX(t, x, "1:0 p.1/s.1/x.2=4 p.1/s.1/x.3=4", "")
	c := cased("p.1=4 p.1/s.1=4 p.1/s.1/x.1=1:0")
	c.Docs = nil
	wantFire(t, office(x), c, "p.1/s.1/x.1", "enable again")
}

func TestP22_1Example(t *testing.T) {
	wantX(t, api.Item{Kind: api.ItemHuman}, "1", "start")
}

func TestP22_3Required(t *testing.T) {
	c := cased("p.1=4 p.1/s.1=4 p.1/s.1/x.1=1 p.1/none.1=1")
	for rule, want := range map[string]bool{"": false, holds: true, fails: false, unknown: false, number: false, wrong: false, "true": true, "not true": false} {
		for _, kind := range []int{api.ItemStage, api.ItemHuman, api.ItemMilestone, api.ItemTimer, 99} {
			m := office(api.Item{Kind: kind, Required: rule})
			if Required(m, c, "p.1/s.1/x.1") != want {
				t.Errorf("rule %q of kind %d: %t", rule, kind, !want)
			}
			for _, path := range []string{"", "p.1", "p.1/s.1", "p.1/s.1/x.2", "p.1/x.1", "p.1/s.1/x", "p.1/none.1", "x.1"} {
				if Required(m, c, path) {
					t.Errorf("%q is required", path)
				}
			}
			if Required(m, api.Case{}, "p.1/s.1/x.1") || Required(api.Model{}, c, "p.1/s.1/x.1") {
				t.Error("there is no case, or no model")
			}
		}
	}
	// An item without an ID is none of an instance that is not there.
	m := office(api.Item{})
	m.Plan.Kids[0] = api.Item{Kind: api.ItemHuman, Required: holds}
	if Required(m, c, "p.1/s.1/x.2") || Required(m, api.Case{}, "") {
		t.Error("an instance that is not there is required")
	}
	// In any state, below whatever there is, by the item that Item says, and in the case as it is.
	m = office(api.Item{Kind: api.ItemHuman, Required: "number(x, available) = 1"})
	m.Plan.Required = holds
	for state := -1; state <= 11; state++ {
		c = cased("p.1=" + strconv.Itoa(state) + " p.1/q.1/x.1=" + strconv.Itoa(state))
		if Required(m, c, "p.1/q.1/x.1") != (state == api.Available) || !Required(m, c, "p.1") {
			t.Error("state", state)
		}
		c.Insts[1].Item = "p"
		if !Required(m, c, "p.1/q.1/x.1") {
			t.Error("state", state)
		}
	}
}

func wantNothing(t *testing.T, what string, c api.Case, l []api.Event, err, want api.Errno) {
	t.Helper()
	if err != want || !reflect.DeepEqual(c, api.Case{}) || len(l) > 0 {
		t.Errorf("%s: error %d, %+v, %v, want error %d alone", what, err, c, l, want)
	}
}
