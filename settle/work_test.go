package settle

import (
	"math"
	"slices"
	"strings"
	"testing"

	"dossier/api"
	"dossier/cascade"
	"dossier/tree"
)

// taken is all of a work, as it comes.
func taken[T any](w *work[T]) []T {
	var l []T
	for {
		select {
		case x := <-w.next():
			l = append(l, x)
		default:
			return l
		}
	}
}

// Numbers count modulo how many are pending, negative ones too, and go on over all choices; where there is no choice none is used.
func TestP25_1Picker(t *testing.T) {
	for _, x := range []struct {
		order, of, want []int
	}{
		{nil, []int{5, 4, 3, 2, 1}, []int{0, 0, 0, 0, 0}},
		{[]int{0}, []int{5, 4, 3}, []int{0, 0, 0}},
		{[]int{1}, []int{5, 2, 3}, []int{1, 1, 1}},
		{[]int{4, 5, 6}, []int{5, 5, 5, 5, 5}, []int{4, 0, 1, 4, 0}},
		{[]int{1, 0}, []int{2, 1, 1, 2, 1, 2}, []int{1, 0, 0, 0, 0, 1}},
		{[]int{-1, -5, -6, -7}, []int{5, 5, 5, 5}, []int{4, 0, 4, 3}},
		{[]int{math.MaxInt, math.MinInt}, []int{2, 2, 7, 7, 10, 3}, []int{1, 0, 0, 6, 7, 1}},
	} {
		p := &picker{order: x.order}
		for k, n := range x.of {
			if got := p.of(n); got != x.want[k] {
				t.Errorf("order %v, choice %d of %d: %d, want %d", x.order, k, n, got, x.want[k])
			}
		}
	}
}

func TestP25_1Work(t *testing.T) {
	l := []string{"a", "b", "c", "d", "e"}
	met := map[string]int{}
	for _, order := range [][]int{nil, {0}, {1}, {2}, {4}, {-1}, {1, 2, 3}, {7, 0}, {4, -9, 3, 1, 0}} {
		p := &picker{order: order}
		w := pend(p, l)
		first := (&picker{order: order}).of(len(l))
		got := taken(w)
		if len(got) != len(l) || got[0] != l[first] || p.choices != min(len(order), 1)*(len(l)-1) {
			t.Errorf("order %v: %v, want %s first", order, got, l[first])
		}
		met[strings.Join(got, "")]++
		slices.Sort(got)
		if !slices.Equal(got, l) || len(taken(w)) > 0 {
			t.Errorf("order %v: %v", order, got)
		}
	}
	if !slices.Equal(l, []string{"a", "b", "c", "d", "e"}) {
		t.Error("the list was modified:", l)
	}
	if met["abcde"] != 2 || len(met) != 8 {
		t.Error(met)
	}
	if got := taken(pend[api.Event](&picker{order: []int{3}}, nil)); got != nil {
		t.Error(got)
	}
}

// What was chosen waits until it is received.
func TestP25_1Waiting(t *testing.T) {
	w := pend(&picker{order: []int{2, 0}}, []int{1, 2, 3})
	w.next()
	w.next()
	if got := taken(w); len(got) != 3 || got[0] != 3 {
		t.Error(got)
	}
}

// Of two firings one of which is in reach of the other, that ahead in the list is in an earlier turn.
func TestP25_2Turns(t *testing.T) {
	for _, x := range []struct {
		paths string // those with "+" are of a firing that makes a further instance come
		want  [][]int
	}{
		{"", nil},
		{"p.1", [][]int{{0}}},
		{"p.1/a.1 p.1/b.1 p.1/a.10 p.1/b.1x", [][]int{{0, 1, 2, 3}}},
		{"p.1 p.1/a.1 p.1/b.1", [][]int{{0}, {1, 2}}},
		{"p.1 p.1/a.1 p.1/a.1/b.1 p.2", [][]int{{0, 3}, {1}, {2}}},
		{"p.1/a.1/b.1 p.1/a.1 p.1/a.1/b.2 p.1/c.1", [][]int{{0, 3}, {1}, {2}}},
		{"p.1/a.1 p.1/a.1 p.1/b.1", [][]int{{0, 2}, {1}}},
		{"+p.1/a.1 p.1/b.1 +p.1/c.1 p.1/d.1", [][]int{{0}, {1}, {2}, {3}}},
		{"p.1/s.1/a.1 +p.1/s.1/b.1 p.1/s.2/a.1 p.1/t.1", [][]int{{0, 2, 3}, {1}}},
		{"p.1/s.1 p.1/s.1/a.1 p.1/t.1 +p.1/u.1 p.2", [][]int{{0, 2, 4}, {1}, {3}}},
		{"+p.1/s.1/a.1 +p.1/s.2/a.1", [][]int{{0, 1}}},
		{"+p.1/s.1/a.1 +p.1/t.1", [][]int{{0}, {1}}},
	} {
		var l []api.Firing
		for s := range strings.FieldsSeq(x.paths) {
			path, again := strings.CutPrefix(s, "+")
			l = append(l, api.Firing{Path: path, Event: api.EvStart, Again: again})
		}
		if got := turns(l); !slices.EqualFunc(got, x.want, slices.Equal[[]int]) {
			t.Errorf("%q: %v, want %v", x.paths, got, x.want)
		}
	}
}

// All that is chosen is chosen by the order; what does nothing by itself is not looked at again until something wakes it.
func TestP25_1Choices(t *testing.T) {
	human := func(id string) api.Item { return api.Item{ID: id, Kind: api.ItemHuman} }
	waits := func(id string) api.Item {
		return api.Item{ID: id, Kind: api.ItemHuman, Entry: []api.Sentry{{On: []api.OnPart{{Item: "a", Event: api.EvStart}}}, {On: []api.OnPart{{Item: "b", Event: api.EvStart}}}}}
	}
	m := api.Model{Plan: api.Item{ID: "p", Kids: []api.Item{human("a"), human("b"), human("c"), waits("d"), waits("e")}}}
	c, l, err := cascade.Root(api.Model{ID: "m", Plan: m.Plan}, 1, 9)
	if err != api.OK {
		t.Fatal(err)
	}
	for _, x := range []struct {
		order   []int
		found   string
		choices []int // so far, behind each round
	}{
		{nil, "abc", []int{0, 0, 0}},
		{[]int{0}, "abc", []int{7, 13, 14}},
		{[]int{5}, "acb", []int{7, 13, 14}},
		{[]int{3, 2}, "cba", []int{7, 13, 14}},
	} {
		found := ""
		for _, f := range begin(m, c, x.order, 9).firings() {
			item, _ := tree.Last(f.Path)
			found += item
		}
		if found != x.found {
			t.Errorf("order %v: found %s, want %s", x.order, found, x.found)
		}
		p, now, events := begin(m, c, x.order, 9), c, l
		// Of six instances three begin, then of five, without the plan, the two that wait for two of these; of those none does anything more.
		for k, choices := range x.choices {
			if now, events, err = p.round(now, events); err != api.OK || p.pick.choices != choices {
				t.Errorf("order %v, round %d: error %d, %d choices, want %d", x.order, k, err, p.pick.choices, choices)
			}
		}
		if len(events) > 0 || len(p.awake) > 0 {
			t.Errorf("order %v: %v, %v", x.order, events, p.awake)
		}
	}
}
