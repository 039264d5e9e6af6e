package tree

import (
	"math/rand"
	"slices"
	"testing"

	"dossier/api"
)

// sketched is a case as a map, as far as its instances have paths of their own.
func sketched(c api.Case) map[string]api.Inst {
	m := map[string]api.Inst{}
	for _, x := range c.Insts {
		m[x.Path] = x
	}
	return m
}

// Cases are made by putting instances into them, and held against maps.
func TestP18_4Put(t *testing.T) {
	r := rand.New(rand.NewSource(184))
	replaced := 0
	for range 300 {
		c := api.Case{ID: r.Intn(9), Model: "m", Clock: r.Intn(9), Docs: tall().Docs}
		want := map[string]api.Inst{}
		for range r.Intn(40) {
			x := api.Inst{Path: scribble(r), Item: pick(r, "a", "b"), State: r.Intn(9), Before: r.Intn(20), Latches: []int{r.Intn(4)}, Due: r.Intn(3)}
			if l := c.Insts; len(l) > 0 && r.Intn(3) == 0 {
				x.Path = pick(r, l...).Path
				replaced++
			}
			was := Copy(c)
			after := Put(c, x)
			if !Same(c, was) {
				t.Fatal("an argument was modified")
			}
			c = after
			want[x.Path] = x
			if got, is := Find(c, x.Path); !is || !sameInst(got, x) {
				t.Fatalf("Find(%q) = %+v, %t, want %+v", x.Path, got, is, x)
			}
			was.Insts, after.Insts = nil, nil
			if !Same(after, was) {
				t.Fatalf("Put changed %+v to %+v", was, after)
			}
		}
		if m := sketched(c); len(m) != len(want) || len(c.Insts) != len(want) {
			t.Fatalf("%d instances, want %d", len(c.Insts), len(want))
		}
		for path, x := range sketched(c) {
			if !sameInst(x, want[path]) {
				t.Fatalf("%+v, want %+v", x, want[path])
			}
		}
		if !slices.IsSortedFunc(c.Insts, func(a, b api.Inst) int { return Order(a.Path, b.Path) }) {
			t.Fatalf("out of order: %+v", c.Insts)
		}
		wantRelated(t, r, c)
	}
	if replaced < 500 {
		t.Error("replaced only", replaced)
	}
}

// wantRelated holds Kids, Below and Next against the paths of all instances.
func wantRelated(t *testing.T, r *rand.Rand, c api.Case) {
	t.Helper()
	up, item := scribble(r), pick(r, "a", "b", "aa", "a.1")
	if len(c.Insts) > 0 && r.Intn(4) > 0 {
		up = Up(pick(r, c.Insts...).Path)
	}
	kids, below, next := Kids(c, up), Below(c, up), 1
	for _, x := range c.Insts {
		if Up(x.Path) == up {
			if len(kids) == 0 || !sameInst(kids[0], x) {
				t.Fatalf("Kids(%q) lacks %+v", up, x)
			}
			kids = kids[1:]
			if of, n := Last(x.Path); of == item {
				next = max(next, min(n, 1<<62-1)+1)
			}
		}
		if Under(x.Path, up) {
			if len(below) == 0 || !sameInst(below[0], x) {
				t.Fatalf("Below(%q) lacks %+v", up, x)
			}
			below = below[1:]
		}
	}
	if len(kids) > 0 || len(below) > 0 {
		t.Fatalf("too many below %q: %+v, %+v", up, kids, below)
	}
	if n := Next(c, up, item); n != next {
		t.Fatalf("Next(%q, %q) = %d, want %d", up, item, n, next)
	}
}
