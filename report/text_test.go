package report_test

import (
	"math"
	"strings"
	"testing"

	"dossier/api"
	"dossier/report"
	"dossier/value"
)

func TestP36_1Line(t *testing.T) {
	for state, name := range map[int]string{
		api.Available: "available", api.Enabled: "enabled", api.Disabled: "disabled", api.Active: "active", api.Failed: "failed", api.Suspended: "suspended", api.Completed: "completed", api.Terminated: "terminated", api.Closed: "closed",
		math.MinInt: "none", -1: "none", 0: "none", 10: "none", 14: "none", 64 + 1: "none", math.MaxInt: "none",
	} {
		for _, path := range []string{"", "p.1", "p.1/s.2/t.10", "/", "a b", "\xff\n"} {
			x := api.Inst{Path: path, Item: "other", State: state, Before: 4, Latches: []int{1}, Due: 3}
			if got := report.Line(x); got != path+" "+name {
				t.Errorf("%q in %d: %q", path, state, got)
			}
		}
	}
}

// named is a model whose items have names, but for the ones of l and v.
func named() api.Model {
	return api.Model{ID: "m", Name: "not printed", Plan: api.Item{ID: "p", Name: "All of it", Kids: []api.Item{
		{ID: "l", Kind: api.ItemListener},
		{ID: "s", Name: "s", Kids: []api.Item{{ID: "v", Kind: api.ItemHuman}}, Table: []api.Item{{ID: "x", Name: "(x)\n", Kind: api.ItemHuman}}},
	}}}
}

func wantText(t *testing.T, m api.Model, c api.Case, want string) {
	t.Helper()
	if got := report.Text(m, c); got != want {
		t.Errorf("%q, not %q", got, want)
	}
}

func TestP36_1TextHead(t *testing.T) {
	wantText(t, api.Model{}, api.Case{}, "case 0 \n")
	wantText(t, named(), api.Case{ID: 1, Model: "m", Clock: 9}, "case 1 m\n")
	wantText(t, named(), api.Case{ID: -12, Model: "another one"}, "case -12 another one\n")
	wantText(t, named(), api.Case{ID: math.MaxInt, Model: "\n"}, "case 9223372036854775807 \n\n")
	wantText(t, named(), api.Case{ID: math.MinInt}, "case -9223372036854775808 \n")
}

func TestP36_1TextInsts(t *testing.T) {
	c := api.Case{ID: 7, Model: "m", Insts: []api.Inst{
		{Path: "p.1", Item: "p", State: api.Active},
		{Path: "p.1/l.1", Item: "l", State: api.Available},
		{Path: "p.1/l.2", Item: "l", State: api.Completed},
		{Path: "p.1/s.1", Item: "s", State: api.Suspended, Before: 14},
		{Path: "p.1/s.1/v.1", Item: "v", State: api.Enabled},
		{Path: "p.1/s.1/x.12", Item: "x", State: api.Failed},
	}}
	wantText(t, named(), c, `case 7 m
p.1 active (All of it)
  p.1/l.1 available
  p.1/l.2 completed
  p.1/s.1 suspended (s)
    p.1/s.1/v.1 enabled
    p.1/s.1/x.12 failed ((x)
)
`)
	wantText(t, api.Model{}, c, "case 7 m\np.1 active\n  p.1/l.1 available\n  p.1/l.2 completed\n  p.1/s.1 suspended\n    p.1/s.1/v.1 enabled\n    p.1/s.1/x.12 failed\n")
}

// TestP36_1TextOdd has instances that no case of a server has.
func TestP36_1TextOdd(t *testing.T) {
	for _, x := range []struct {
		inst api.Inst
		want string
	}{
		{api.Inst{}, " none\n"},
		{api.Inst{Path: "p.1", Item: "s", State: api.Closed}, "p.1 closed (s)\n"}, // the item counts, not the path
		{api.Inst{Path: "p.1", Item: "l"}, "p.1 none\n"},
		{api.Inst{Path: "p.1", Item: "none", State: 4}, "p.1 active\n"},
		{api.Inst{Path: "p.1"}, "p.1 none\n"},
		{api.Inst{Path: "/", Item: "p"}, "  / none (All of it)\n"},
		{api.Inst{Path: "//a//", State: 10}, "        //a// none\n"},
		{api.Inst{Path: "x/y", State: -4}, "  x/y none\n"}, // below nothing
	} {
		wantText(t, named(), api.Case{Insts: []api.Inst{x.inst}}, "case 0 \n"+x.want)
		wantText(t, named(), api.Case{Insts: []api.Inst{x.inst, x.inst}}, "case 0 \n"+x.want+x.want)
	}
	c := api.Case{Insts: []api.Inst{{Path: "p.1/b"}, {Path: "p.1"}, {Path: "p.1/a"}}}
	wantText(t, named(), c, "case 0 \n  p.1/b none\np.1 none\n  p.1/a none\n") // the order of the list
}

// TestP36_1TextNames holds that an item is the first one with its ID, with or without a name.
func TestP36_1TextNames(t *testing.T) {
	m := api.Model{Plan: api.Item{ID: "p", Kids: []api.Item{
		{ID: "a", Kids: []api.Item{{ID: "b", Name: "first"}, {ID: "", Name: "no ID"}}}, {ID: "a", Name: "second"}, {ID: "b", Name: "third"},
	}, Table: []api.Item{{ID: "p", Name: "fourth"}, {ID: "c", Name: "fifth"}}}}
	c := api.Case{}
	for _, id := range []string{"p", "a", "b", "c", ""} {
		c.Insts = append(c.Insts, api.Inst{Path: id, Item: id, State: 1})
	}
	wantText(t, m, c, "case 0 \np available\na available\nb available (first)\nc available (fifth)\n available (no ID)\n")
}

func TestP36_1TextFile(t *testing.T) {
	for _, x := range []struct {
		v    api.Value
		want string
	}{
		{api.Value{}, ""},
		{value.Int(0), " = 0"},
		{value.Int(-5), " = -5"},
		{value.Bool(true), " = true"},
		{value.Bool(false), " = false"},
		{value.Text(""), ` = ""`},
		{value.Text(`a "b" \c`), ` = "a \"b\" \\c"`},
		{api.Value{Int: 5, Bool: true, Text: "x"}, ""}, // of no kind
		{api.Value{Kind: 4, Int: 5}, " = "},            // of a kind that there is not
		{api.Value{Kind: -1, Text: "x"}, " = "},
	} {
		c := api.Case{ID: 1, Model: "m", Docs: []api.Doc{{Path: "b#2.c#1", Value: x.v, Refs: []string{"a#1"}}, {Path: "a#1"}}}
		wantText(t, named(), c, "case 1 m\nfile b#2.c#1"+x.want+"\nfile a#1\n")
		c.Insts = []api.Inst{{Path: "p.1", Item: "p", State: 4}}
		wantText(t, named(), c, "case 1 m\np.1 active (All of it)\nfile b#2.c#1"+x.want+"\nfile a#1\n")
	}
	wantText(t, named(), api.Case{Docs: []api.Doc{{}, {Path: "a/b"}}}, "case 0 \nfile \nfile a/b\n")
}

// A case made by hand may be large, and a model deep.
func TestP36_1TextLarge(t *testing.T) {
	m := api.Model{Plan: api.Item{ID: "s"}}
	for range 20000 {
		m.Plan = api.Item{ID: "s", Name: "n", Kids: []api.Item{m.Plan}}
	}
	c := api.Case{Insts: make([]api.Inst, 100000)}
	c.Insts[0] = api.Inst{Path: strings.Repeat("/", 1<<20), Item: "s"}
	if got := len(report.Text(m, c)); got != len("case 0 \n")+3<<20+len(" none (n)\n")+99999*len(" none\n") {
		t.Error(got)
	}
}
