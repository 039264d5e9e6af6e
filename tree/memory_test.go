package tree

import (
	"slices"
	"testing"

	"dossier/api"
)

// roomy gives every list of a case spare capacity that holds something.
func roomy(c api.Case) api.Case {
	c = Copy(c)
	for k := range c.Insts {
		c.Insts[k] = roomyInst(c.Insts[k])
	}
	for k, d := range c.Docs {
		c.Docs[k].Refs = append(slices.Clone(d.Refs), "spare")[:len(d.Refs)]
	}
	c.Insts = append(slices.Clone(c.Insts), api.Inst{Path: "spare"})[:len(c.Insts)]
	c.Docs = append(slices.Clone(c.Docs), api.Doc{Path: "spare"})[:len(c.Docs)]
	return c
}

func roomyInst(x api.Inst) api.Inst {
	x.Latches = append(slices.Clone(x.Latches), 77)[:len(x.Latches)]
	return x
}

// untouched reports whether the lists of a roomy case are as they were made.
func untouched(c, was api.Case) bool {
	for _, x := range c.Insts {
		if x.Latches[:len(x.Latches)+1][len(x.Latches)] != 77 {
			return false
		}
	}
	for _, d := range c.Docs {
		if d.Refs[:len(d.Refs)+1][len(d.Refs)] != "spare" {
			return false
		}
	}
	return Same(c, was) && c.Insts[:len(c.Insts)+1][len(c.Insts)].Path == "spare" && c.Docs[:len(c.Docs)+1][len(c.Docs)].Path == "spare"
}

// fill overwrites everything from an index of a list on, the spare capacity included.
func fill[T any](l []T, from int, with T) {
	for k := from; k < cap(l); k++ {
		l[:cap(l)][k] = with
	}
}

// spoilSpare overwrites the spare capacity of all lists of a case, and spoil all lists.
func spoilSpare(c api.Case) {
	for _, x := range c.Insts {
		fill(x.Latches, len(x.Latches), -1)
	}
	for _, d := range c.Docs {
		fill(d.Refs, len(d.Refs), "spoilt")
	}
	fill(c.Insts, len(c.Insts), api.Inst{Path: "spoilt"})
	fill(c.Docs, len(c.Docs), api.Doc{Path: "spoilt"})
}

func spoil(c api.Case) {
	for _, x := range c.Insts {
		fill(x.Latches, 0, -1)
	}
	for _, d := range c.Docs {
		fill(d.Refs, 0, "spoilt")
	}
	fill(c.Insts, 0, api.Inst{Path: "spoilt"})
	fill(c.Docs, 0, api.Doc{Path: "spoilt"})
}

// wantOwn holds that what a call returns for a case is in memory of its own, and that the case stays as it is.
func wantOwn(t *testing.T, what string, call func(c api.Case) api.Case) {
	t.Helper()
	c := roomy(tall())
	want := Copy(call(roomy(tall())))
	got, again := call(c), call(c)
	spoilSpare(got)
	if !Same(got, want) {
		t.Errorf("%s: two lists of the result share memory", what)
	}
	spoil(got)
	if !untouched(c, tall()) {
		t.Errorf("%s: an argument was modified, or shares memory with the result", what)
	}
	spoil(c)
	if !Same(again, want) {
		t.Errorf("%s: the result shares memory with an argument or with another result", what)
	}
}

func TestP18_3Memory(t *testing.T) {
	wantOwn(t, "Copy", Copy)
	wantOwn(t, "Kids", func(c api.Case) api.Case { return api.Case{Insts: Kids(c, "p.1/s.1")} })
	wantOwn(t, "Below", func(c api.Case) api.Case { return api.Case{Insts: Below(c, "p.1")} })
	wantOwn(t, "Find", func(c api.Case) api.Case {
		x, _ := Find(c, "p.1/s.1/t.2")
		return api.Case{Insts: []api.Inst{x}}
	})
	for _, path := range []string{"a.1", "p.1/s.1/t.2", "p.1/s.3", "p.2"} {
		wantOwn(t, "Put "+path, func(c api.Case) api.Case { return Put(c, inst(path, 1, 4, 5)) })
		// Latches of an instance of the case itself.
		wantOwn(t, "Put again "+path, func(c api.Case) api.Case {
			x := c.Insts[4]
			x.Path = path
			return Put(c, x)
		})
	}
	wantOwn(t, "Next and Same", func(c api.Case) api.Case {
		if Next(c, "p.1", "s") != 11 || !Same(c, c) {
			t.Error("Next or Same")
		}
		return api.Case{}
	})
}

// Put keeps nothing of the instance.
func TestP18_3PutMemory(t *testing.T) {
	for _, path := range []string{"p.1/s.1", "p.1/s.3"} {
		x := roomyInst(inst(path, 1, 4, 5))
		c := Put(tall(), x)
		got, _ := Find(c, path)
		if !slices.Equal(got.Latches, []int{4, 5}) || !slices.Equal(x.Latches[:3], []int{4, 5, 77}) {
			t.Error(path, got, x)
		}
		spoil(c)
		if !slices.Equal(x.Latches[:3], []int{4, 5, 77}) {
			t.Error(path, "shares the latches of the instance")
		}
	}
}
