package tree

import (
	"math"
	"reflect"
	"slices"
	"testing"

	"dossier/api"
)

func inst(path string, state int, latches ...int) api.Inst {
	item, _ := Last(path)
	return api.Inst{Path: path, Item: item, State: state, Latches: latches}
}

// tall is a case with its instances in order.
func tall() api.Case {
	return api.Case{ID: 3, Model: "m", Clock: 17,
		Insts: []api.Inst{
			inst("p.1", 4, 1),
			inst("p.1/s.1", 4, 0, 2),
			inst("p.1/s.1/s.2", 1),
			inst("p.1/s.1/t.1", 7, 5),
			inst("p.1/s.1/t.2", 1, 1, 2, 3),
			inst("p.1/s.2", 8),
			inst("p.1/s.2/t.1", 8),
			{Path: "p.1/s.10", Item: "s", State: 6, Before: 14, Latches: []int{0}},
			{Path: "p.1/w.3", Item: "w", State: 1, Due: 99},
		},
		Docs: []api.Doc{
			{Path: "a#1", Value: api.Value{Kind: api.KindInt, Int: 5}, Refs: []string{"a#2", "b#1"}},
			{Path: "a#2"},
			{Path: "b#1", Value: api.Value{Kind: api.KindText, Text: "x"}, Refs: []string{"a#1"}},
		},
	}
}

// loose is a case made by hand, out of order, with paths twice and texts that are no paths.
func loose() api.Case {
	return api.Case{Insts: []api.Inst{
		inst("p.1/t.2", 1), inst("p.1/t.10", 2), inst("p.1", 3), inst("", 4), inst("p.1/t.2", 5), inst("x", 6), inst("p.1/", 7), inst("p.1//t.9", 8), inst("p.1/s.1", 9), inst("/t.4", 10), inst("p.1/t.1/u.1", 11), inst("p.1/x", 12), inst("q.7", 13),
	}}
}

func wantFind(t *testing.T, c api.Case, path string, want api.Inst, wantIs bool) {
	t.Helper()
	if x, is := Find(c, path); is != wantIs || !reflect.DeepEqual(x, want) {
		t.Errorf("Find(%q) = %+v, %t, want %+v, %t", path, x, is, want, wantIs)
	}
}

func TestP18_3Find(t *testing.T) {
	for _, x := range tall().Insts {
		wantFind(t, tall(), x.Path, x, true)
	}
	for _, path := range []string{"", "p", "p.2", "p.1/", "p.1/s.3", "s.1", "P.1", "p.01", "p.1/t.1", "p.1/s.1/t.1/t.1", "\x00"} {
		wantFind(t, tall(), path, api.Inst{}, false)
		wantFind(t, api.Case{}, path, api.Inst{}, false)
	}
	// The first one counts.
	wantFind(t, loose(), "p.1/t.2", inst("p.1/t.2", 1), true)
	wantFind(t, loose(), "", inst("", 4), true)
	wantFind(t, loose(), "x", inst("x", 6), true)
}

func wantInsts(t *testing.T, call string, c api.Case, got []api.Inst, want ...int) {
	t.Helper()
	var l []api.Inst
	for _, k := range want {
		l = append(l, c.Insts[k])
	}
	if len(got) != len(l) || len(l) > 0 && !reflect.DeepEqual(got, l) {
		t.Errorf("%s: %+v, want %+v", call, got, l)
	}
}

func TestP18_3Kids(t *testing.T) {
	for path, want := range map[string][]int{"": {0}, "p.1": {1, 5, 7, 8}, "p.1/s.1": {2, 3, 4}, "p.1/s.2": {6}, "p.1/w.3": nil, "p": nil, "p.1/": nil, "p.2": nil, "s.1": nil, "p.1/s": nil} {
		wantInsts(t, "Kids of "+path, tall(), Kids(tall(), path), want...)
	}
	// In a case made by hand the order is that of the list.
	for path, want := range map[string][]int{"": {2, 3, 5, 9, 12}, "p.1": {0, 1, 4, 6, 8, 11}, "p.1/": {7}, "p.1/t.1": {10}, "/": nil, "x": nil} {
		wantInsts(t, "Kids of "+path, loose(), Kids(loose(), path), want...)
	}
	wantInsts(t, "none", api.Case{}, Kids(api.Case{}, ""))
}

func TestP18_3Below(t *testing.T) {
	for path, want := range map[string][]int{"": nil, "p.1": {1, 2, 3, 4, 5, 6, 7, 8}, "p.1/s.1": {2, 3, 4}, "p.1/s.2": {6}, "p.1/s.10": nil, "p": nil, "p.1/": nil, "p.1/s": nil, "p.1/s.1/t.1": nil} {
		wantInsts(t, "Below "+path, tall(), Below(tall(), path), want...)
	}
	for path, want := range map[string][]int{"": {9}, "p.1": {0, 1, 4, 6, 7, 8, 10, 11}, "p.1/": {7}, "p.1/t.1": {10}, "x": nil, "q": nil} {
		wantInsts(t, "Below "+path, loose(), Below(loose(), path), want...)
	}
	wantInsts(t, "none", api.Case{}, Below(api.Case{}, ""))
}

// wantPut holds Put against the list with the instance at an index, in the place of so many.
func wantPut(t *testing.T, c api.Case, x api.Inst, at, instead int) {
	t.Helper()
	want := Copy(c)
	want.Insts = slices.Concat(c.Insts[:at], []api.Inst{x}, c.Insts[at+instead:])
	got := Put(c, x)
	if !Same(got, want) {
		t.Errorf("Put(%q): %+v, want %+v", x.Path, got, want)
	}
	wantFind(t, got, x.Path, x, true)
}

func TestP18_3Put(t *testing.T) {
	for k, x := range tall().Insts {
		wantPut(t, tall(), api.Inst{Path: x.Path, Item: "other", State: 9, Before: -1, Latches: []int{7, 7}, Due: 5}, k, 1)
		wantPut(t, tall(), api.Inst{Path: x.Path}, k, 1)
	}
	for path, at := range map[string]int{"": 0, "a.1": 0, "o.9": 0, "p.2": 9, "q.1": 9, "p.1/a.1": 1, "p.1/s.1/a.1": 2, "p.1/s.1/s.1": 2, "p.1/s.1/s.2/a.1": 3, "p.1/s.1/s.3": 3, "p.1/s.1/s.10": 3, "p.1/s.1/t.3": 5, "p.1/s.1/t.10": 5, "p.1/s.1/t.2/a.1": 5, "p.1/s.3": 7, "p.1/s.9": 7, "p.1/s.11": 8, "p.1/s.10/t.1": 8, "p.1/ss.1": 8, "p.1/w.3/a.1": 9, "p.1/w.4": 9, "p.1/w": 1, "p": 0} {
		wantPut(t, tall(), inst(path, 1, 4), at, 0)
	}
	wantPut(t, api.Case{}, inst("p.1", 4, 1), 0, 0)
	wantPut(t, api.Case{}, api.Inst{}, 0, 0)
	// In a case made by hand: instead of the first one with the path, or ahead of the first one that is greater.
	wantPut(t, loose(), inst("p.1/t.2", 20), 0, 1)
	wantPut(t, loose(), inst("", 20), 3, 1)
	wantPut(t, loose(), inst("p.1/t.3", 20), 1, 0)
	wantPut(t, loose(), inst("p.1/t.1", 20), 0, 0)
	wantPut(t, loose(), inst("p.1/t.11", 20), 12, 0)
	wantPut(t, loose(), inst("r.1", 20), 13, 0)
}

func wantNext(t *testing.T, c api.Case, up, item string, want int) {
	t.Helper()
	if n := Next(c, up, item); n != want {
		t.Errorf("Next(%q, %q) = %d, want %d", up, item, n, want)
	}
}

func TestP18_3Next(t *testing.T) {
	wantNext(t, tall(), "", "p", 2)
	wantNext(t, tall(), "", "s", 1)
	wantNext(t, tall(), "p.1", "s", 11)
	wantNext(t, tall(), "p.1", "w", 4)
	wantNext(t, tall(), "p.1", "t", 1)
	wantNext(t, tall(), "p.1", "", 1)
	wantNext(t, tall(), "p.1/s.1", "t", 3)
	wantNext(t, tall(), "p.1/s.1", "s", 3)
	wantNext(t, tall(), "p.1/s.3", "t", 1)
	wantNext(t, api.Case{}, "", "", 1)
	// The path counts, and not the field.
	c := api.Case{Insts: []api.Inst{{Path: "p.1/t.5", Item: "u"}, {Path: "p.1/u.7", Item: "t"}}}
	wantNext(t, c, "p.1", "t", 6)
	wantNext(t, c, "p.1", "u", 8)
	wantNext(t, loose(), "p.1", "t", 11)
	wantNext(t, loose(), "", "t", 5)
	wantNext(t, loose(), "p.1/", "t", 10)
	wantNext(t, loose(), "p.1", "", 1)
	wantNext(t, loose(), "", "q", 8)
}

func TestP18_3NextLimit(t *testing.T) {
	for last, want := range map[int]int{1<<62 - 2: 1<<62 - 1, 1<<62 - 1: 1 << 62, 1 << 62: 1 << 62, 1<<62 + 1: 1 << 62, math.MaxInt - 1: 1 << 62, math.MaxInt: 1 << 62} {
		path := Path("p.1", "t", last)
		for _, l := range [][]api.Inst{{inst(path, 1)}, {inst("p.1/t.3", 1), inst(path, 1), inst("p.1/t.4", 1), inst("p.1/u."+most, 1)}} {
			wantNext(t, api.Case{Insts: l}, "p.1", "t", want)
		}
	}
}

// All fields in turn are changed, so that no field is forgotten.
func TestP18_3Same(t *testing.T) {
	if !Same(tall(), tall()) || !Same(loose(), loose()) || !Same(api.Case{}, api.Case{}) {
		t.Error("the same ones")
	}
	for k, change := range []func(c *api.Case){
		func(c *api.Case) { c.ID++ },
		func(c *api.Case) { c.Model = "M" },
		func(c *api.Case) { c.Clock = -c.Clock },
		func(c *api.Case) { c.Insts = nil },
		func(c *api.Case) { c.Insts = c.Insts[:8] },
		func(c *api.Case) { c.Insts = append(c.Insts, api.Inst{}) },
		func(c *api.Case) { c.Insts[0], c.Insts[1] = c.Insts[1], c.Insts[0] },
		func(c *api.Case) { c.Insts[8].Path += "0" },
		func(c *api.Case) { c.Insts[0].Item = "" },
		func(c *api.Case) { c.Insts[3].State = 8 },
		func(c *api.Case) { c.Insts[7].Before = 4 },
		func(c *api.Case) { c.Insts[7].Latches = nil },
		func(c *api.Case) { c.Insts[2].Latches = []int{0} },
		func(c *api.Case) { c.Insts[4].Latches[2] = 0 },
		func(c *api.Case) { c.Insts[4].Latches = c.Insts[4].Latches[:2] },
		func(c *api.Case) { c.Insts[8].Due = 98 },
		func(c *api.Case) { c.Docs = c.Docs[1:] },
		func(c *api.Case) { c.Docs = append(c.Docs, api.Doc{}) },
		func(c *api.Case) { c.Docs[2].Path = "" },
		func(c *api.Case) { c.Docs[0].Value.Kind = api.KindBool },
		func(c *api.Case) { c.Docs[0].Value.Int = 6 },
		func(c *api.Case) { c.Docs[1].Value.Bool = true },
		func(c *api.Case) { c.Docs[2].Value.Text = "X" },
		func(c *api.Case) { c.Docs[0].Refs[1] = "b#2" },
		func(c *api.Case) { c.Docs[0].Refs = c.Docs[0].Refs[:1] },
		func(c *api.Case) { c.Docs[1].Refs = []string{""} },
		func(c *api.Case) { slices.Reverse(c.Docs[0].Refs) },
	} {
		c := tall()
		change(&c)
		if Same(c, tall()) || Same(tall(), c) || !Same(c, c) {
			t.Errorf("change %d", k)
		}
	}
}

// A nil list and an empty one mean the same.
func TestP18_3Empty(t *testing.T) {
	c := api.Case{Insts: []api.Inst{{Path: "p.1", Latches: []int{}}}, Docs: []api.Doc{{Path: "a#1", Refs: []string{}}}}
	d := api.Case{Insts: []api.Inst{{Path: "p.1"}}, Docs: []api.Doc{{Path: "a#1"}}}
	if !Same(c, d) || !Same(d, c) || !Same(api.Case{Insts: []api.Inst{}, Docs: []api.Doc{}}, api.Case{}) {
		t.Error("a nil list and an empty one differ")
	}
	if !Same(Copy(c), d) || !Same(Put(c, d.Insts[0]), d) || !Same(Copy(api.Case{}), api.Case{}) {
		t.Error("copies differ")
	}
}

func TestP18_3Copy(t *testing.T) {
	for _, c := range []api.Case{tall(), loose(), {ID: math.MinInt, Model: "\xff", Clock: math.MaxInt}} {
		if got := Copy(c); !Same(got, c) {
			t.Errorf("Copy(%+v) = %+v", c, got)
		}
	}
	if !reflect.DeepEqual(Copy(tall()).Docs[0], tall().Docs[0]) || !reflect.DeepEqual(Copy(tall()).Insts[4], tall().Insts[4]) {
		t.Error("a field is lost")
	}
}

func TestP18_3Example(t *testing.T) {
	if s := Path("p.1", "t", 2); s != "p.1/t.2" {
		t.Error(s)
	}
}
