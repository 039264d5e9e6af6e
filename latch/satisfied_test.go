package latch

import (
	"math"
	"testing"

	"dossier/api"
)

func wantSatisfied(t *testing.T, c api.Case, path string, entry, exit bool) {
	t.Helper()
	if is := Satisfied(review(), c, path, true); is != entry {
		t.Errorf("entry of %q in %+v: %t", path, c, is)
	}
	if is := Satisfied(review(), c, path, false); is != exit {
		t.Errorf("exit of %q in %+v: %t", path, c, is)
	}
}

// latched is the reviewed case with these latches of b, and with this total.
func latched(total int, latches ...int) api.Case {
	c := with(map[string][]int{"p.1/s.1/b.1": latches})
	c.Docs[1].Value.Int = total
	return c
}

func TestP20_2Satisfied(t *testing.T) {
	for _, x := range []struct {
		total       int
		latches     [5]int
		entry, exit bool
	}{
		{0, [5]int{0, 0, 0, 0, 0}, false, false},
		// All on-parts of a sentry.
		{0, [5]int{1, 0, 0, 0, 0}, false, false}, {0, [5]int{2, 0, 0, 0, 0}, false, false}, {0, [5]int{3, 0, 0, 0, 0}, false, false}, {0, [5]int{6, 0, 0, 0, 0}, false, false}, {0, [5]int{5, 0, 0, 0, 0}, false, false},
		{0, [5]int{7, 0, 0, 0, 0}, true, false}, {0, [5]int{15, 0, 0, 0, 0}, true, false}, {0, [5]int{-1, 0, 0, 0, 0}, true, false}, {0, [5]int{-8, 0, 0, 0, 0}, false, false}, {0, [5]int{math.MaxInt, 0, 0, 0, 0}, true, false}, {0, [5]int{math.MinInt, 0, 0, 0, 0}, false, false},
		// The condition, and both of them.
		{9, [5]int{0, 0, 0, 0, 0}, false, false}, {10, [5]int{0, 0, 0, 0, 0}, true, false}, {0, [5]int{0, 7, 0, 0, 0}, false, false},
		{5, [5]int{0, 0, 1, 0, 0}, false, false}, {6, [5]int{0, 0, 1, 0, 0}, true, false}, {6, [5]int{0, 0, 2, 0, 0}, false, false}, {6, [5]int{0, 0, 3, 0, 0}, true, false}, {6, [5]int{4, 1, 0, 0, 0}, false, false},
		// Exit.
		{0, [5]int{0, 0, 0, 1, 0}, false, true}, {0, [5]int{0, 0, 0, 2, 0}, false, false}, {0, [5]int{0, 0, 0, 0, 1}, false, false}, {0, [5]int{0, 0, 0, 1, 1}, false, true}, {10, [5]int{7, 0, 1, 1, 0}, true, true},
	} {
		wantSatisfied(t, latched(x.total, x.latches[:]...), "p.1/s.1/b.1", x.entry, x.exit)
	}
}

// One latch for each sentry, neither fewer nor more.
func TestP20_2Latches(t *testing.T) {
	wantSatisfied(t, latched(10, 7, 0, 0, 1, 0), "p.1/s.1/b.1", true, true)
	for _, latches := range [][]int{nil, {7}, {7, 0, 0, 1}, {7, 0, 0, 1, 0, 0}} {
		wantSatisfied(t, latched(10, latches...), "p.1/s.1/b.1", false, false)
	}
}

func TestP20_2None(t *testing.T) {
	for _, path := range []string{"", "p.2", "p.1/s.1/b.9", "b.1", "p.1/s.1/b.1/"} {
		wantSatisfied(t, latched(10, 7, 0, 0, 1, 0), path, false, false)
	}
	c := latched(10, 7, 0, 0, 1, 0)
	c.Insts[3].Item = "none"
	wantSatisfied(t, c, "p.1/s.1/b.1", false, false)
	wantSatisfied(t, api.Case{}, "", false, false)
	if Satisfied(api.Model{}, reviewed(), "p.1", false) || Satisfied(api.Model{}, api.Case{}, "", true) {
		t.Error("no model")
	}
	// Without sentries of a side none is satisfied, and Item says whose sentries they are.
	wantSatisfied(t, reviewed(), "p.1/a.1", false, false)
	wantSatisfied(t, with(map[string][]int{"p.1": {1}}), "p.1", false, true)
	wantSatisfied(t, with(map[string][]int{"p.1/s.1/u.1/c.1": {3}}), "p.1/s.1/u.1/c.1", true, false)
	c = with(map[string][]int{"p.1/s.1/b.1": {3}})
	c.Insts[3].Item = "c"
	wantSatisfied(t, c, "p.1/s.1/b.1", true, false)
	// The state makes no difference; of two at one path the first one is meant.
	for state := -1; state <= 10; state++ {
		c = latched(0, 7, 0, 0, 1, 0)
		c.Insts[3].State = state
		wantSatisfied(t, c, "p.1/s.1/b.1", true, true)
	}
	c.Insts = append(c.Insts, reviewed().Insts[3])
	wantSatisfied(t, c, "p.1/s.1/b.1", true, true)
}

// A sentry with more on-parts than a latch has bits cannot occur.
func TestP20_2ManyParts(t *testing.T) {
	for many, want := range map[int]bool{1: true, 8: true, 62: true, 63: true, 64: true, 65: false, 200: false} {
		m := review()
		s := api.Sentry{}
		for range many {
			s.On = append(s.On, on("s", api.EvStart))
		}
		m.Plan.Kids[0].Entry = []api.Sentry{s}
		c := with(map[string][]int{"p.1/a.1": {0}})
		c = Latch(m, c, []api.Event{event("p.1/s.1", api.EvStart)})
		if is := Satisfied(m, c, "p.1/a.1", true); is != want {
			t.Errorf("%d on-parts: %t, latches %v", many, is, c.Insts[1].Latches)
		}
		if many == 8 && c.Insts[1].Latches[0] != 255 {
			t.Error(c.Insts[1].Latches)
		}
	}
	// A sentry with neither is satisfied, in a model made by hand; one with a condition that is none is not.
	m := review()
	m.Plan.Kids[0].Entry = []api.Sentry{{}}
	m.Plan.Kids[0].Exit = []api.Sentry{{If: "?"}, {If: "order.none = 1"}, {If: "1"}, {If: "true or 1 / 0 = 1"}}
	c := with(map[string][]int{"p.1/a.1": {0, 0, 0, 0, 0}})
	if !Satisfied(m, c, "p.1/a.1", true) || Satisfied(m, c, "p.1/a.1", false) {
		t.Error("empty and invalid sentries")
	}
}

func TestP20_2Example(t *testing.T) {
	c := reviewed()
	for _, total := range []int{9, 10, 9, 99} {
		c.Docs[1].Value.Int = total
		wantSatisfied(t, c, "p.1/s.1/b.1", total > 9, false)
	}
	c.Docs = nil
	wantSatisfied(t, c, "p.1/s.1/b.1", false, false)
}
