package audit_test

import (
	"math"
	"slices"
	"strings"
	"testing"

	"dossier/api"
	"dossier/audit"
	"dossier/tree"
)

func TestP35_1SoundModel(t *testing.T) {
	c := cased(fine)
	c.Docs = []api.Doc{{Path: "order#1"}, {Path: "order#1.total#1", Value: api.Value{Kind: api.KindInt, Int: 5}}, {Path: "order#3"}}
	for name, change := range map[string]func(m *api.Model, c *api.Case){
		"its name":           func(m *api.Model, _ *api.Case) { m.Name = "\x00" },
		"a role":             func(m *api.Model, _ *api.Case) { m.Roles = []string{"a", "a"} },
		"an item's name":     func(m *api.Model, _ *api.Case) { m.Plan.Kids[0].Name = strings.Repeat("x", 65) },
		"a rule":             func(m *api.Model, _ *api.Case) { m.Plan.Kids[0].Required = "1" },
		"the case's model":   func(_ *api.Model, c *api.Case) { c.Model = "p" },
		"no model":           func(_ *api.Model, c *api.Case) { c.Model = "" },
		"another model's ID": func(m *api.Model, _ *api.Case) { m.ID = "office2" },
	} {
		m, d := office(), tree.Copy(c)
		if !audit.Sound(m, d, 16) {
			t.Fatal("not sound")
		}
		if change(&m, &d); audit.Sound(m, d, 16) {
			t.Error("sound, although there is a fault:", name)
		}
	}
	if audit.Sound(api.Model{}, api.Case{Insts: []api.Inst{{Path: ".1"}}}, 5) {
		t.Error("sound, without a model")
	}
}

// Without instances, a case is not sound.
func TestP35_1SoundMany(t *testing.T) {
	for _, most := range []int{math.MinInt, -1, 0, 1, 300, math.MaxInt} {
		if audit.Sound(office(), cased(""), most) {
			t.Error("sound, without instances", most)
		}
		if audit.Sound(office(), cased("p.1=4:0"), most) != (most >= 1) {
			t.Error("one instance", most)
		}
	}
	c := cased(fine)
	for most := range 40 {
		if audit.Sound(office(), c, most) != (most >= len(c.Insts)) {
			t.Error(len(c.Insts), "instances", most)
		}
	}
	// There is no other limit.
	c = cased("p.1=4:0")
	for n := range 2000 {
		c.Insts = append(c.Insts, inst(tree.Path("p.1", "l", n+1)+"=1"))
	}
	if !audit.Sound(office(), c, 2001) || audit.Sound(office(), c, 2000) {
		t.Error("many instances")
	}
}

func TestP35_1SoundOrder(t *testing.T) {
	if !audit.Sound(office(), cased("p.1=4:0 p.1/l.2=1 p.1/l.10=1 p.1/s.1=4 p.1/s.1/w.1=1@5 p.1/s.2=4"), 9) {
		t.Error("not sound")
	}
	for _, insts := range []string{
		"p.1/l.1=1 p.1=4:0", "p.1=4:0 p.1/l.10=1 p.1/l.2=1", "p.1=4:0 p.1/l.1=1 p.1/l.1=1", "p.1=4:0 p.1=4:0", "p.1=4:0 p.1/s.1=4 p.1/s.2=4 p.1/s.1/w.1=1", "p.1=4:0 p.1/s.1=4 p.1/l.1=1",
	} {
		wantFine(t, office(), cased(insts))
		if audit.Sound(office(), cased(insts), 9) {
			t.Error("sound:", insts)
		}
	}
	c := cased(fine)
	for k := 1; k < len(c.Insts); k++ {
		d := tree.Copy(c)
		d.Insts[k-1], d.Insts[k] = d.Insts[k], d.Insts[k-1]
		if audit.Sound(office(), d, 20) {
			t.Error("sound, with another one ahead of", d.Insts[k].Path)
		}
	}
}

func TestP35_1SoundConsistent(t *testing.T) {
	for k, x := range cased(fine).Insts {
		c := cased(fine)
		if c.Insts[k].Before = 9; audit.Sound(office(), c, 20) {
			t.Error("sound, with an odd one:", x.Path)
		}
	}
}

func TestP35_1SoundFile(t *testing.T) {
	m, c := office(), cased(fine)
	for _, l := range [][]api.Doc{
		{{Path: "order"}}, {{Path: "other#1"}}, {{Path: "order#2"}, {Path: "order#1"}}, {{Path: "order#1.total#1"}},
		{{Path: "order#1", Value: api.Value{Kind: api.KindInt}}}, {{Path: "order#1"}, {Path: "order#1.total#1", Value: api.Value{Kind: api.KindBool}}},
		{{Path: "order#1", Refs: []string{"order#1"}}},
	} {
		if c.Docs = l; audit.Sound(m, c, 20) {
			t.Error("sound:", l)
		}
	}
	c.Docs = nil
	for n := range api.MaxFile + 1 {
		if !audit.Sound(m, c, 20) {
			t.Error("not sound, with", len(c.Docs))
		}
		c.Docs = append(c.Docs, api.Doc{Path: "order#" + string(rune('1'+n%9)) + strings.Repeat("0", n/9)})
	}
	if audit.Sound(m, c, 20) {
		t.Error("sound, with", len(c.Docs))
	}
}

func TestP35_1SoundClock(t *testing.T) {
	c := cased(fine)
	for clock, want := range map[int]bool{
		math.MinInt: false, -1 << 61: false, -1: false, 0: true, 1: true, 1 << 40: true, 1<<61 - 1: true, 1 << 61: true, 1<<61 + 1: false, 1 << 62: false, math.MaxInt: false,
	} {
		if c.Clock = clock; audit.Sound(office(), c, 20) != want {
			t.Error(clock)
		}
	}
}

// The ID of a case is not held.
func TestP35_1SoundID(t *testing.T) {
	for _, id := range []int{math.MinInt, -1, 0, 1, math.MaxInt} {
		c := cased(fine)
		if c.ID = id; !audit.Sound(office(), c, 20) {
			t.Error(id)
		}
	}
}

// A model and a case made by hand may be large, and deep.
func TestP35_1Large(t *testing.T) {
	m, c, path := api.Model{Plan: api.Item{ID: "p"}}, api.Case{}, "p.1"
	c.Insts = append(c.Insts, api.Inst{Path: path, Item: "p", State: api.Active})
	for range 30000 {
		m.Plan.Kids = append(m.Plan.Kids, api.Item{ID: "i" + strings.Repeat("x", len(m.Plan.Kids)%50), Kind: api.ItemHuman})
		c.Insts = append(c.Insts, api.Inst{Path: "p.1/i.1", Item: "i", State: api.Active})
	}
	wantFine(t, m, c)
	deep := api.Item{ID: "s"}
	for range 20000 {
		deep = api.Item{ID: "s", Kids: []api.Item{deep}}
	}
	for range 300 {
		path += "/s.1"
		c.Insts = append(c.Insts, api.Inst{Path: path, Item: "s", State: api.Active})
	}
	m.Plan.Kids = append(m.Plan.Kids, deep)
	wantFine(t, m, c)
	wantOdd(t, m, api.Case{Insts: slices.Concat(c.Insts, []api.Inst{{Path: strings.Repeat("/", 1<<20)}})}, strings.Repeat("/", 1<<20))
}
