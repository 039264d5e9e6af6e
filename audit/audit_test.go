package audit_test

import (
	"math"
	"slices"
	"strconv"
	"strings"
	"testing"

	"dossier/api"
	"dossier/audit"
	"dossier/model"
	"dossier/states"
	"dossier/tree"
)

// on is a sentry that waits for all of some events, such as "t complete" and, of the case file, "order# update".
func on(events ...string) api.Sentry {
	s := api.Sentry{}
	for _, e := range events {
		source, name, _ := strings.Cut(e, " ")
		event, _ := model.EventOf(name)
		if file, is := strings.CutSuffix(source, "#"); is {
			s.On = append(s.On, api.OnPart{File: file, Event: event})
		} else {
			s.On = append(s.On, api.OnPart{Item: source, Event: event})
		}
	}
	return s
}

// office is a valid model with every kind of items, and sentries on both sides.
func office() api.Model {
	s := api.Item{ID: "s", Kind: api.ItemStage, Manual: "true", Kids: []api.Item{
		{ID: "v", Kind: api.ItemProcess, Repeat: "true"},
		{ID: "w", Kind: api.ItemTimer, After: 5},
		{ID: "n", Kind: api.ItemStage, Exit: []api.Sentry{on("v fault", "w occur")}, Kids: []api.Item{{ID: "k", Kind: api.ItemDecision, Entry: []api.Sentry{on("v complete")}}}},
	}, Table: []api.Item{{ID: "x", Kind: api.ItemCase, Manual: "true"}, {ID: "y", Kind: api.ItemStage, Kids: []api.Item{{ID: "z", Kind: api.ItemHuman}}}}}
	return api.Model{ID: "office", Files: []api.FileItem{
		{Name: "order", Multi: api.MultiAny, Kids: []api.FileItem{{Name: "total", Kind: api.KindInt}}},
	}, Plan: api.Item{ID: "p", Exit: []api.Sentry{on("order# delete")}, Kids: []api.Item{
		{ID: "t", Kind: api.ItemHuman, Entry: []api.Sentry{on("l occur", "o occur", "s start"), {If: "true"}}, Exit: []api.Sentry{on("s fault"), on("s complete", "order.total# update")}},
		{ID: "l", Kind: api.ItemListener},
		{ID: "o", Kind: api.ItemMilestone, Entry: []api.Sentry{on("order# create")}},
		s,
	}, Table: []api.Item{{ID: "d", Kind: api.ItemMilestone}}}}
}

// fine is a case of the office in which nothing is odd.
const fine = "p.1=4:0 p.1/d.1=7 p.1/l.1=1 p.1/l.2=8 p.1/o.1=1:1 p.1/s.1=4 p.1/s.1/n.1=4:3 p.1/s.1/n.1/k.1=2:1 p.1/s.1/v.1=7 p.1/s.1/v.2=4 p.1/s.1/v.10=5 p.1/s.1/w.1=1@5 p.1/s.1/x.1=3 p.1/s.1/y.1=6<14 p.1/s.1/y.1/z.1=6<14 p.1/t.1=1:7,0,1,2"

// cased makes a case of the office from a text such as "p.1=4 p.1/s.1=6<14:0,1@5": path, state, the state before, latches and due time, if there are any, and "~" with the item if it is another one.
func cased(insts string) api.Case {
	c := api.Case{ID: 3, Model: "office"}
	for s := range strings.FieldsSeq(insts) {
		c.Insts = append(c.Insts, inst(s))
	}
	return c
}

func inst(s string) api.Inst {
	var x api.Inst
	s, x.Item, _ = strings.Cut(s, "~")
	s, due, _ := strings.Cut(s, "@")
	s, latches, some := strings.Cut(s, ":")
	path, numbers, _ := strings.Cut(s, "=")
	state, before, _ := strings.Cut(numbers, "<")
	x.Path = path
	if x.Item == "" {
		x.Item, _ = tree.Last(path)
	}
	x.State, _ = strconv.Atoi(state)
	x.Before, _ = strconv.Atoi(before)
	x.Due, _ = strconv.Atoi(due)
	for latch := range strings.SplitSeq(latches, ",") {
		if n, err := strconv.Atoi(latch); some && err == nil {
			x.Latches = append(x.Latches, n)
		}
	}
	return x
}

// with is the case that fine describes, with some instances in place of those at their paths, or besides.
func with(insts string) api.Case {
	c := cased(fine)
	for s := range strings.FieldsSeq(insts) {
		c = tree.Put(c, inst(s))
	}
	return c
}

// wantOdd holds that an instance is the first that is not consistent.
func wantOdd(t *testing.T, m api.Model, c api.Case, want string) {
	t.Helper()
	if path, is := audit.Odd(m, c); path != want || !is {
		t.Errorf("%q, %t, not %q: %+v", path, is, want, c.Insts)
	}
	if audit.Sound(m, c, math.MaxInt) {
		t.Errorf("sound, with %q: %+v", want, c.Insts)
	}
}

func wantFine(t *testing.T, m api.Model, c api.Case) {
	t.Helper()
	if path, is := audit.Odd(m, c); path != "" || is {
		t.Errorf("%q, %t: %+v", path, is, c.Insts)
	}
}

func TestP35_1Fine(t *testing.T) {
	wantFine(t, office(), cased(fine))
	wantFine(t, office(), api.Case{})
	wantFine(t, api.Model{}, api.Case{})
	if c := cased(fine); !audit.Sound(office(), c, len(c.Insts)) {
		t.Error("not sound")
	}
}

// TestP35_1Parts has instances in front of those around them, which are odd, too: what counts is that they are there.
func TestP35_1Parts(t *testing.T) {
	for _, x := range []struct{ path, insts string }{
		{"p/t.1", "p/t.1=1:0,0,0,0 p=4:0~p"},
		{"p.0/t.1", "p.0/t.1=1:0,0,0,0 p.0=4:0~p"},
		{"p.01/t.1", "p.01/t.1=1:0,0,0,0 p.01=4:0~p"},
		{"p.-1/t.1", "p.-1/t.1=1:0,0,0,0 p.-1=4:0~p"},
		{"p./t.1", "p./t.1=1:0,0,0,0 p.=4:0~p"},
		{"p.1x/t.1", "p.1x/t.1=1:0,0,0,0 p.1x=4:0~p"},
		{"p.9223372036854775808/t.1", "p.9223372036854775808/t.1=1:0,0,0,0 p.9223372036854775808=4:0~p"},
		{".1/t.1", ".1/t.1=1:0,0,0,0 .1=4:0~p"},
		{"/t.1", "/t.1=1:0,0,0,0~t"},
		{"/p.1", "/p.1=4:0"},
		{"p.1//l.1", "p.1//l.1=1 p.1=4:0 p.1/=4~p"},
		{"p.1/s/n.1/k.1", "p.1/s/n.1/k.1=1:0 p.1=4:0 p.1/s=4~s p.1/s/n.1=4:0"},
		{"p.1/", "p.1=4:0 p.1/=1~l"},
		{"p.1/l", "p.1=4:0 p.1/l=1~l"},
		{"p.1/l.0", "p.1=4:0 p.1/l.0=1~l"},
		{"p.1/l.007", "p.1=4:0 p.1/l.007=1~l"},
		{"p.1/l.+1", "p.1=4:0 p.1/l.+1=1~l"},
		{"p", "p=4:0~p"},
		{"p.", "p.=4:0~p"},
		{".1", ".1=4:0~p"},
		{"", "=4:0~p"},
	} {
		wantOdd(t, office(), cased(x.insts), x.path)
	}
	wantFine(t, office(), cased("p.1=4:0 p.1/l.9223372036854775807=1"))
	// What is below an odd one need not be odd itself.
	wantOdd(t, office(), cased("p.9/l.1=1 p.9=4:0"), "p.9")
}

// A part without an item is one, although there is an item with the ID "".
func TestP35_1PartsOfNoName(t *testing.T) {
	m := api.Model{Plan: api.Item{Kids: []api.Item{{ID: "t", Kind: api.ItemHuman}}}}
	wantOdd(t, m, cased(".1=4"), ".1")
	wantOdd(t, m, cased("=4"), "")
	wantOdd(t, m, cased(".1/t.1=4 .1=4"), ".1/t.1")
}

func TestP35_1Items(t *testing.T) {
	for _, x := range []struct{ path, insts string }{
		{"p.1", "p.1=4:0~s"},
		{"p.1/l.1", "p.1/l.1=1~d"},
		{"p.1/l.1", "p.1/l.1=1~none"},
		{"p.1/none.1", "p.1/none.1=1"},
		{"p.1/none.1", "p.1/none.1=1~l"},
		{"p.1/office.1", "p.1/office.1=4"},
	} {
		wantOdd(t, office(), with(x.insts), x.path)
	}
	c := with("")
	c.Insts[2].Item = "" // of p.1/l.1
	wantOdd(t, office(), c, "p.1/l.1")
}

func TestP35_1Plan(t *testing.T) {
	for _, path := range []string{"p.2", "s.1", "t.1", "p.9223372036854775807"} {
		wantOdd(t, office(), cased("p.1=4:0 "+path+"=4:0"), path)
	}
	wantOdd(t, office(), cased("s.1=4"), "s.1")
	wantOdd(t, office(), cased("l.1=1"), "l.1")
	// An ID may have dots, as that of a model made by hand.
	m := api.Model{Plan: api.Item{ID: "a.1", Kids: []api.Item{{ID: "b.", Kind: api.ItemHuman}}}}
	wantFine(t, m, cased("a.1.1=4 a.1.1/b..2=4"))
	wantOdd(t, m, cased("a.1=4"), "a.1")
	// What is at the top is a plan, of whatever kind: such a model is none.
	m = api.Model{ID: "office", Plan: api.Item{ID: "p", Kind: api.ItemHuman}}
	for state := range 10 {
		wantOdd(t, m, cased("p.1="+strconv.Itoa(state)), "p.1")
	}
}

func TestP35_1Above(t *testing.T) {
	for _, x := range []struct{ path, insts string }{
		{"p.1/v.1", "p.1/v.1=1"},                         // an item of another stage
		{"p.1/k.1", "p.1/k.1=1:0"},                       // one further below
		{"p.1/p.1", "p.1/p.1=1:0"},                       // the plan is below nothing
		{"p.1/s.1/s.1", "p.1/s.1/s.1=1"},                 // nor is a stage below itself
		{"p.1/s.1/d.1", "p.1/s.1/d.1=1"},                 // one of the table of another stage
		{"p.1/s.2/v.1", "p.1/s.2/v.1=1"},                 // nothing there
		{"p.1/s.1/n.2/k.1", "p.1/s.1/n.2/k.1=1:0"},       // nothing there
		{"p.1/l.1/v.1", "p.1/l.1/v.1=1"},                 // below a listener
		{"p.1/s.1/n.1/z.1", "p.1/s.1/n.1/z.1=1"},         // one of a stage beside it
		{"p.1/s.1/y.1/z.1/z.1", "p.1/s.1/y.1/z.1/z.1=1"}, // below a task
	} {
		wantOdd(t, office(), with(x.insts), x.path)
	}
	for _, insts := range []string{"p.1/d.2=1", "p.1/s.1/x.2=4", "p.1/s.1/y.7=4 p.1/s.1/y.7/z.3=4", "p.1/s.2=1 p.1/s.2/v.1=1"} {
		wantFine(t, office(), with(insts))
	}
}

// TestP35_1AboveItem holds that it is the item of the instance around that counts, not that of its path.
func TestP35_1AboveItem(t *testing.T) {
	wantOdd(t, office(), cased("p.1/s.1/v.1=1 p.1=4:0 p.1/s.1=4~n"), "p.1/s.1/v.1")
	wantOdd(t, office(), cased("p.1/s.1/v.1=1 p.1=4:0 p.1/s.1=4~none"), "p.1/s.1/v.1")
	wantOdd(t, office(), cased("p.1/l.1/v.1=1 p.1=4:0 p.1/l.1=4~s"), "p.1/l.1")
	// The place in the list makes no difference to what is around.
	wantFine(t, office(), cased("p.1/s.1/v.1=1 p.1/s.1=4 p.1=4:0"))
}

// TestP35_1States has every item in every state.
func TestP35_1States(t *testing.T) {
	met := map[bool]int{}
	for _, path := range []string{"p.1", "p.1/d.1", "p.1/l.1", "p.1/o.1", "p.1/s.1", "p.1/s.1/v.1", "p.1/s.1/w.1", "p.1/s.1/x.1", "p.1/s.1/n.1", "p.1/s.1/n.1/k.1", "p.1/t.1"} {
		for _, state := range []int{math.MinInt, -4, -1, 0, 1, 2, 3, 4, 5, 6, 7, 8, 9, 10, 14, 68, math.MaxInt} {
			c := with("")
			// What is below makes no difference here.
			c.Insts = slices.DeleteFunc(c.Insts, func(x api.Inst) bool { return tree.Under(x.Path, path) })
			at := slices.IndexFunc(c.Insts, func(x api.Inst) bool { return x.Path == path })
			x := &c.Insts[at]
			x.State, x.Before = state, 0
			if state == api.Suspended {
				x.Before = 1
			}
			i, _ := model.Find(office(), x.Item)
			can := states.States(i.Kind, path == "p.1", state)
			if met[can]++; can {
				wantFine(t, office(), c)
			} else {
				wantOdd(t, office(), c, path)
			}
		}
	}
	if met[true] < 60 || met[false] < 60 {
		t.Error(met)
	}
}

func TestP35_1Before(t *testing.T) {
	for _, path := range []string{"p.1", "p.1/l.1", "p.1/s.1", "p.1/s.1/w.1", "p.1/t.1"} {
		for _, before := range []int{math.MinInt, math.MinInt + 9, math.MinInt + 14, -14, -4, -1, 0, 1, 2, 3, 4, 5, 6, 7, 8, 9, 10, 11, 12, 13, 14, 15, 16, 17, 18, 19, 20, 24, math.MaxInt} {
			for state := api.Available; state <= api.Closed; state++ {
				c := with("")
				c.Insts = slices.DeleteFunc(c.Insts, func(x api.Inst) bool { return tree.Under(x.Path, path) })
				x := &c.Insts[slices.IndexFunc(c.Insts, func(x api.Inst) bool { return x.Path == path })]
				x.State, x.Before = state, before
				i, _ := model.Find(office(), x.Item)
				switch {
				case !states.States(i.Kind, path == "p.1", state):
				case state == api.Suspended && (1 <= before && before <= 8 || 11 <= before && before <= 18), state != api.Suspended && before == 0:
					wantFine(t, office(), c)
				default:
					wantOdd(t, office(), c, path)
				}
			}
		}
	}
}

func TestP35_1Latches(t *testing.T) {
	for _, latches := range []string{":0,0,0,0", ":7,0,1,3", ":6,0,0,2", ":1,0,1,1"} {
		wantFine(t, office(), with("p.1/t.1=4"+latches))
	}
	for _, latches := range []string{
		"", ":0", ":0,0,0", ":0,0,0,0,0", // too few, too many
		":8,0,0,0", ":0,1,0,0", ":0,0,2,0", ":0,0,0,4", ":-1,0,0,0", ":0,-1,0,0", ":0,0,-1,0", ":0,0,0,-1",
		":-9223372036854775808,0,0,0", ":0,-9223372036854775808,0,0", ":9223372036854775807,0,0,0", ":0,9223372036854775807,0,0",
		":0,0,7,0", ":0,0,0,7", // those of Entry come first
	} {
		wantOdd(t, office(), with("p.1/t.1=4"+latches), "p.1/t.1")
	}
	wantOdd(t, office(), with("p.1=4"), "p.1")
	wantOdd(t, office(), with("p.1=4:2"), "p.1")
	wantFine(t, office(), with("p.1=4:1"))
	wantOdd(t, office(), with("p.1/l.1=1:0"), "p.1/l.1")
}

// A model made by hand may have more on-parts than a latch has bits.
func TestP35_1ManyParts(t *testing.T) {
	for _, n := range []int{61, 62, 63, 64, 65, 128, 1000} {
		m := api.Model{ID: "m", Plan: api.Item{ID: "p", Exit: []api.Sentry{{On: make([]api.OnPart, n)}}}}
		for _, latch := range []int{math.MinInt, -1, 0, 1, 1<<61 - 1, 1 << 61, 1<<62 - 1, 1 << 62, math.MaxInt} {
			c := api.Case{Insts: []api.Inst{{Path: "p.1", Item: "p", State: api.Active, Latches: []int{latch}}}}
			if latch >= 0 && (n > 62 || latch < 1<<n) {
				wantFine(t, m, c)
			} else {
				wantOdd(t, m, c, "p.1")
			}
		}
	}
}

func TestP35_1Due(t *testing.T) {
	for _, due := range []string{"-1", "1", "5", "9223372036854775807", "-9223372036854775808"} {
		for path, s := range map[string]string{"p.1": "p.1=4:0", "p.1/l.1": "p.1/l.1=1", "p.1/o.1": "p.1/o.1=1:0", "p.1/s.1": "p.1/s.1=4", "p.1/s.1/v.1": "p.1/s.1/v.1=1", "p.1/s.1/x.1": "p.1/s.1/x.1=1"} {
			wantOdd(t, office(), with(s+"@"+due), path)
		}
		wantFine(t, office(), with("p.1/s.1/w.1=1@"+due))
		wantFine(t, office(), with("p.1/s.1/w.1=7@"+due))
	}
	wantFine(t, office(), with("p.1/s.1/w.1=1"))
}

// TestP35_1Parent has every state below every other one.
func TestP35_1Parent(t *testing.T) {
	spelt := func(state int) string {
		if state == api.Suspended {
			return "6<4"
		}
		return strconv.Itoa(state)
	}
	for up := api.Available; up < api.Closed; up++ {
		for state := api.Available; state < api.Closed; state++ {
			for _, path := range []string{"p.1/s.1/v.1", "p.1/s.1/x.1"} {
				c := cased("p.1=4:0 p.1/s.1=" + spelt(up) + " " + path + "=" + spelt(state))
				ended := state == api.Completed || state == api.Terminated
				if (up == api.Completed || up == api.Terminated) && !ended || up == api.Suspended && state == api.Active {
					wantOdd(t, office(), c, path)
				} else {
					wantFine(t, office(), c)
				}
			}
		}
	}
	for insts, odd := range map[string]string{
		"p.1=9:0 p.1/l.1=1": "p.1/l.1", "p.1=9:0 p.1/l.1=8": "", "p.1=9:0 p.1/o.1=7:0": "", "p.1=9:0 p.1/o.1=6<1:0": "p.1/o.1",
		"p.1=7:0 p.1/s.1=5": "p.1/s.1", "p.1=8:0 p.1/s.1=3": "p.1/s.1", "p.1=6<4:0 p.1/s.1=4": "p.1/s.1", "p.1=6<4:0 p.1/s.1=5": "", "p.1=5:0 p.1/s.1=4": "",
		"p.1=6<4:0 p.1/s.1=5 p.1/s.1/v.1=4": "", // it is the parent that counts, not what is around it
		"p.1=8:0 p.1/s.1=7 p.1/s.1/v.1=4":   "p.1/s.1/v.1",
	} {
		if odd == "" {
			wantFine(t, office(), cased(insts))
		} else {
			wantOdd(t, office(), cased(insts), odd)
		}
	}
}

func TestP35_1First(t *testing.T) {
	wantOdd(t, office(), with("p.1/l.1=0 p.1/s.1/v.2=9"), "p.1/l.1")
	wantOdd(t, office(), with("p.1/s.1/v.2=9 p.1/t.1=1"), "p.1/s.1/v.2")
	wantOdd(t, office(), cased("p.1/s.1/v.2=9 p.1/l.1=0 p.1=0 p.1/s.1=4"), "p.1/s.1/v.2") // the order of the list
	wantOdd(t, office(), cased("p.1=4:0 =4~p p.1/l.1=0"), "")
}

// TestP35_1Twice holds that of two instances at one path the first one is what is around others, while each of them is held itself.
func TestP35_1Twice(t *testing.T) {
	wantOdd(t, office(), cased("p.1=4:0 p.1/s.1=6<4 p.1/s.1=4 p.1/s.1/v.1=4"), "p.1/s.1/v.1")
	c := cased("p.1=4:0 p.1/s.1=4 p.1/s.1=6<4 p.1/s.1/v.1=4")
	wantFine(t, office(), c)
	if audit.Sound(office(), c, 10) {
		t.Error("sound")
	}
	wantOdd(t, office(), cased("p.1=4:0 p.1/l.1=1 p.1/l.1=4"), "p.1/l.1")
}

// TestP35_1SameIDs holds that of two items with one ID the first one counts.
func TestP35_1SameIDs(t *testing.T) {
	m := api.Model{Plan: api.Item{ID: "p", Kids: []api.Item{
		{ID: "a", Kind: api.ItemStage, Kids: []api.Item{{ID: "b", Kind: api.ItemTimer}}},
		{ID: "a", Kind: api.ItemStage, Exit: []api.Sentry{{}}, Table: []api.Item{{ID: "c", Kind: api.ItemHuman}, {ID: "b", Kind: api.ItemHuman}}},
	}}}
	wantFine(t, m, cased("p.1=4 p.1/a.1=4 p.1/a.1/b.1=1@3"))
	wantOdd(t, m, cased("p.1=4 p.1/a.1=4:0"), "p.1/a.1")
	wantOdd(t, m, cased("p.1=4 p.1/a.1=4 p.1/a.1/b.1=4"), "p.1/a.1/b.1")
	wantOdd(t, m, cased("p.1=4 p.1/a.1=4 p.1/a.1/c.1=4"), "p.1/a.1/c.1")
}

// TestP35_1OddAlone holds that Odd looks at nothing but the instances.
func TestP35_1OddAlone(t *testing.T) {
	m, c := office(), cased(fine)
	m.ID, m.Plan.Kids[0].Name, m.Files = "", "\x00", nil
	c.Model, c.Clock, c.Docs = "other", -1, []api.Doc{{Path: "?"}}
	slices.Reverse(c.Insts)
	wantFine(t, m, c)
}
