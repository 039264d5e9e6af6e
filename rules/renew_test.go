package rules

import (
	"math"
	"slices"
	"strconv"
	"strings"
	"testing"

	"dossier/api"
	"dossier/cascade"
	"dossier/model"
	"dossier/tree"
)

// told makes events of texts such as "p.1/s.1 complete, p.1/s.1/t.1 terminate".
func told(events string) []api.Event {
	var l []api.Event
	for s := range strings.SplitSeq(events, ",") {
		path, name, is := strings.Cut(strings.TrimSpace(s), " ")
		if event, known := model.EventOf(name); is && known {
			l = append(l, api.Event{Path: path, Event: event})
		}
	}
	return l
}

// wantRenew holds that new instances at some paths come of events, each of them as layer 19 makes it.
func wantRenew(t *testing.T, m api.Model, c api.Case, events string, paths ...string) {
	t.Helper()
	want := c
	var l []api.Event
	for _, path := range paths {
		item, _ := tree.Last(path)
		created, more, err := cascade.Create(m, want, tree.Up(path), item, math.MaxInt)
		if err != api.OK {
			t.Fatal(err)
		}
		want, l = created, append(l, more...)
		if more[0].Path != path {
			t.Fatalf("%s is not the next one", path)
		}
	}
	got, made, err := Renew(m, c, told(events), len(want.Insts))
	if err != api.OK || !tree.Same(got, want) || !slices.Equal(made, l) {
		t.Errorf("%s: error %d\n%+v\n%v, want\n%+v\n%v", events, err, got, made, want, l)
	}
	if len(paths) > 0 {
		got, made, err = Renew(m, c, told(events), len(want.Insts)-1)
		wantNothing(t, events, got, made, err, api.ErrBudget)
	}
}

// repeats is a model in which x repeats, if it has no entry.
func repeats(entry ...api.Sentry) api.Model {
	return office(api.Item{Kind: api.ItemHuman, Repeat: holds, Entry: entry, Exit: waits})
}

const staged = "p.1=4 p.1/s.1=4 "

func TestP22_2Renew(t *testing.T) {
	c := cased(staged + "p.1/s.1/d.1=8 p.1/s.1/x.1=7:0 p.1/s.1/x.2=4:0")
	wantRenew(t, repeats(), c, "p.1/s.1/x.1 complete", "p.1/s.1/x.3")
	wantRenew(t, repeats(), c, "p.1/s.1/x.1 terminate", "p.1/s.1/x.3")
	wantRenew(t, repeats(), c, "p.1/s.1/d.1 terminate", "p.1/s.1/d.2")
	wantRenew(t, repeats(), c, "")
	for event := -1; event <= 30; event++ {
		l := []api.Event{{Path: "p.1/s.1/x.1", Event: event}}
		got, made, err := Renew(repeats(), c, l, 6)
		is := event == api.EvComplete || event == api.EvTerminate
		if err != api.OK || len(made) > 0 != is || len(got.Insts) > 5 != is {
			t.Errorf("event %d: %d, %v", event, err, made)
		}
		l[0].File = true
		if got, made, err = Renew(repeats(), c, l, 6); err != api.OK || len(made) > 0 || !tree.Same(got, c) {
			t.Errorf("event %d of a file: %d, %v", event, err, made)
		}
	}
	// The state of the instance makes no difference, nor does its kind.
	for state := -1; state <= 11; state++ {
		wantRenew(t, repeats(), cased(staged+"p.1/s.1/x.1="+strconv.Itoa(state)), "p.1/s.1/x.1 complete", "p.1/s.1/x.2")
	}
	for kind := api.ItemStage; kind <= api.ItemTimer; kind++ {
		m := office(api.Item{Kind: kind, Repeat: holds, After: 5})
		wantRenew(t, m, cased(staged+"p.1/s.1/x.1=8"), "p.1/s.1/x.1 terminate", "p.1/s.1/x.2")
	}
}

// The instances come in the order of the events, one for each path.
func TestP22_2Order(t *testing.T) {
	c := cased(staged + "p.1/s.1/d.1=7 p.1/s.1/d.2=7 p.1/s.1/x.1=7:0 p.1/s.1/x.5=8:0 p.1/s.2=4 p.1/s.2/x.1=7:0")
	wantRenew(t, repeats(), c, "p.1/s.2/x.1 complete, p.1/s.1/x.5 complete, p.1/s.1/d.1 terminate, p.1/s.1/x.1 complete", "p.1/s.2/x.2", "p.1/s.1/x.6", "p.1/s.1/d.3", "p.1/s.1/x.7")
	wantRenew(t, repeats(), c, "p.1/s.1/x.1 complete, p.1/s.1/x.1 complete, p.1/s.1/d.2 complete, p.1/s.1/x.1 terminate, p.1/s.1/d.2 terminate", "p.1/s.1/x.6", "p.1/s.1/d.3")
	wantRenew(t, repeats(), c, "p.1/s.1/x.1 exit, p.1/s.1/d.2 complete, p.1/s.1/x.1 terminate, p.1/s.1/x.1 start", "p.1/s.1/d.3", "p.1/s.1/x.6")
	// An event of a file, and one that renews nothing, does not count as one of the path.
	l := []api.Event{{Path: "p.1/s.1/x.1", File: true, Event: api.EvComplete}, {Path: "p.1/s.1/x.1", Event: api.EvOccur}, {Path: "p.1/s.1/x.1", Event: api.EvTerminate}}
	if got, made, err := Renew(repeats(), c, l, 9); err != api.OK || !slices.Equal(made, told("p.1/s.1/x.6 create")) || len(got.Insts) != 9 {
		t.Error(err, made)
	}
	// One that comes is none of those that ended.
	wantRenew(t, repeats(), c, "p.1/s.1/d.1 complete, p.1/s.1/d.3 complete", "p.1/s.1/d.3")
}

func TestP22_2Not(t *testing.T) {
	c := cased(staged + "p.1/s.1/none.1=7 p.1/s.1/x.1=7:0")
	for _, path := range []string{"", "p.1", "p.1/s.1", "p.1/s.1/x.2", "p.1/s.1/x", "p.1/s.1/none.1", "p.1/s.2/x.1", "x.1", "p.1/o.1"} {
		wantRenew(t, repeats(), c, path+" complete, "+path+" terminate")
	}
	wantRenew(t, api.Model{}, c, "p.1/s.1/x.1 complete")
	wantRenew(t, repeats(), api.Case{}, "p.1/s.1/x.1 complete")
	// With an entry, an instance repeats when it begins.
	wantRenew(t, repeats(open...), c, "p.1/s.1/x.1 complete")
	wantRenew(t, repeats(waits...), c, "p.1/s.1/x.1 terminate")
	for rule, is := range map[string]bool{"": false, holds: true, fails: false, unknown: false, number: false, wrong: false, "true": true} {
		m, paths := office(api.Item{Kind: api.ItemHuman, Repeat: rule}), []string{}
		if is {
			paths = append(paths, "p.1/s.1/x.2")
		}
		wantRenew(t, m, c, "p.1/s.1/x.1 complete", paths...)
	}
	// The parent is there, and Active.
	for state := -1; state <= 11; state++ {
		c, paths := cased("p.1=8 p.1/s.1="+strconv.Itoa(state)+" p.1/s.1/x.1=7"), []string{}
		if state == api.Active {
			paths = append(paths, "p.1/s.1/x.2")
		}
		wantRenew(t, repeats(), c, "p.1/s.1/x.1 complete", paths...)
	}
	wantRenew(t, repeats(), cased("p.1=4 p.1/s.1/x.1=7"), "p.1/s.1/x.1 complete")
	m := repeats()
	m.Plan.Kids[0] = api.Item{Kind: api.ItemHuman, Repeat: holds} // without an ID
	wantRenew(t, m, c, "p.1/s.1/x.2 complete")
	m = repeats()
	m.Plan.Repeat = holds
	wantRenew(t, m, cased("p.1=7"), "p.1 complete")
}

// All is asked in the case as it was, so that two instances that ended repeat although one would be enough.
func TestP22_2Before(t *testing.T) {
	m := office(api.Item{Kind: api.ItemHuman, Repeat: "number(x, available) = 0"})
	c := cased(staged + "p.1/s.1/x.1=7 p.1/s.1/x.2=7")
	wantRenew(t, m, c, "p.1/s.1/x.1 complete, p.1/s.1/x.2 complete", "p.1/s.1/x.3", "p.1/s.1/x.4")
	c, l, err := Renew(m, c, told("p.1/s.1/x.1 complete"), 9)
	if err != api.OK || len(l) != 1 {
		t.Fatal(err, l)
	}
	wantRenew(t, m, c, "p.1/s.1/x.2 complete")
	// At the greatest number an instance takes the place of another one, here that of a parent.
	last := "p.1/s.1/x." + strconv.Itoa(1<<62)
	c = cased(staged + "p.1/s.1/x.1=7 " + last + "=4 " + last + "/x.1=7")
	wantRenew(t, repeats(), c, last+"/x.1 complete", last+"/x.2")
	got, l, err := Renew(repeats(), c, told("p.1/s.1/x.1 complete, "+last+"/x.1 complete"), 6)
	if y, _ := tree.Find(got, last); err != api.OK || !slices.Equal(l, told(last+" create, "+last+"/x.2 create")) || y.State != api.Available {
		t.Error(err, l)
	}
	// The item is the one that Item says.
	c = cased(staged + "p.1/s.1/o.1=7")
	c.Insts[2].Item = "x"
	wantRenew(t, m, c, "p.1/s.1/o.1 complete", "p.1/s.1/x.1")
	// Of two at one path the first one counts.
	c = cased(staged + "p.1/s.1=7 p.1/s.1/x.1=7")
	wantRenew(t, m, c, "p.1/s.1/x.1 complete", "p.1/s.1/x.2")
}

func TestP22_2Budget(t *testing.T) {
	c := cased(staged + "p.1/s.1/x.1=7:0 p.1/s.1/x.2=7:0")
	l := told("p.1/s.1/x.1 complete, p.1/s.1/x.2 complete")
	for _, most := range []int{math.MinInt, -1, 0, 1, 3, 4, 5} {
		got, made, err := Renew(repeats(), c, l, most)
		wantNothing(t, "most "+strconv.Itoa(most), got, made, err, api.ErrBudget)
	}
	for _, most := range []int{6, 7, api.MaxInst, math.MaxInt} {
		if got, made, err := Renew(repeats(), c, l, most); err != api.OK || len(got.Insts) != 6 || len(made) != 2 {
			t.Errorf("most %d: error %d, %v", most, err, made)
		}
	}
	// Where none comes, nothing is over the budget.
	for _, most := range []int{math.MinInt, 0, 3} {
		if got, made, err := Renew(repeats(open...), c, l, most); err != api.OK || !tree.Same(got, c) || len(made) > 0 {
			t.Errorf("most %d: error %d, %v", most, err, made)
		}
	}
}
