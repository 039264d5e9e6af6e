package shape

import (
	"math"
	"reflect"
	"slices"
	"strconv"
	"strings"
	"testing"

	"dossier/api"
)

func file(name string, kids ...api.FileItem) api.FileItem {
	return api.FileItem{Name: name, Kids: kids}
}

func refers(name string, refs ...string) api.FileItem { return api.FileItem{Name: name, Refs: refs} }

func wantCheck(t *testing.T, want api.Errno, l ...api.FileItem) {
	t.Helper()
	if err := Check(l); err != want {
		t.Errorf("Check(%.300v) = error %d, want error %d", l, err, want)
	}
}

// row are so many definitions, one behind the other.
func row(many int) []api.FileItem {
	var l []api.FileItem
	for i := range many {
		l = append(l, file("n"+strconv.Itoa(i)))
	}
	return l
}

// nest is so many definitions, one inside the other, around some.
func nest(many int, inner ...api.FileItem) []api.FileItem {
	for range many {
		inner = []api.FileItem{file("n", inner...)}
	}
	return inner
}

func TestP12_1Good(t *testing.T) {
	wantCheck(t, api.OK)
	if err := Check([]api.FileItem{}); err != api.OK {
		t.Errorf("empty: error %d", err)
	}
	for kind := api.KindNone; kind <= api.KindText; kind++ {
		for multi := api.MultiOne; multi <= api.MultiSome; multi++ {
			wantCheck(t, api.OK, api.FileItem{Name: "a", Kind: kind, Multi: multi, Kids: []api.FileItem{{Name: "b", Kind: kind, Multi: multi}}, Refs: []string{}})
		}
	}
	// The same name in lists of their own.
	wantCheck(t, api.OK, file("a", file("a", file("a"), file("b")), file("b")), file("b", file("a"), file("b", file("a"))))
	wantCheck(t, api.OK, refers("a", "b", "c.a", "a"), file("b"), file("c", refers("a", "c"), refers("b", "c.a", "c.b")))
}

func TestP12_1Names(t *testing.T) {
	for _, s := range validNames() {
		wantCheck(t, api.OK, file(s))
		wantCheck(t, api.OK, file("outer", file("first"), file(s)))
		if !Name(s) {
			t.Errorf("%q is a name", s)
		}
	}
	for _, s := range wrongNames() {
		wantCheck(t, api.ErrName, file(s))
		wantCheck(t, api.ErrName, file("outer", file("first"), file(s)), file("b"))
		if Name(s) {
			t.Errorf("%.80q is no name", s)
		}
	}
}

func validNames() []string {
	return []string{"a", "Z", "_", "_0", "a1", "active", "And", "nots", "counts", "TRUE", "a_B_9", strings.Repeat("x", 64), "_" + strings.Repeat("9", 63)}
}

func wrongNames() []string {
	return []string{"", " ", "a ", " a", "a b", "a.b", ".", "a.", ".a", "a#1", "#", "1", "1a", "a-b", "-", "+", "\"a\"", "(a)", "a,b", "\u00e9", "a\u00e9", "\x00", "a\x00", "\xff", "a\n",
		"and", "or", "not", "true", "false", "count", "number", strings.Repeat("x", 65), strings.Repeat("x", 1<<20)}
}

func TestP12_1Twice(t *testing.T) {
	wantCheck(t, api.ErrTwice, file("a"), file("a"))
	wantCheck(t, api.ErrTwice, file("a"), file("b"), file("c"), file("b"))
	wantCheck(t, api.ErrTwice, file("a", file("b"), file("c"), file("b")))
	wantCheck(t, api.ErrTwice, file("x", file("y", file("a"), file("a"))), file("z"))
	wantCheck(t, api.ErrTwice, append(row(59), file("n0"))...)
	wantCheck(t, api.ErrTwice, append(row(59), file("n58"))...)
	wantCheck(t, api.OK, file("a"), file("A"), file("aa"), file("a_"))
}

func TestP12_1Kinds(t *testing.T) {
	for _, n := range []int{-1, 4, 5, 1 << 32, math.MaxInt, math.MinInt} {
		wantCheck(t, api.ErrKind, api.FileItem{Name: "a", Kind: n})
		wantCheck(t, api.ErrKind, api.FileItem{Name: "a", Multi: n})
		wantCheck(t, api.ErrKind, file("a"), file("b", file("c"), api.FileItem{Name: "d", Kind: n}))
		wantCheck(t, api.ErrKind, file("a"), file("b", file("c"), api.FileItem{Name: "d", Multi: n}))
	}
}

func TestP12_1Depth(t *testing.T) {
	wantCheck(t, api.OK, nest(24)...)
	wantCheck(t, api.ErrFull, nest(25)...)
	wantCheck(t, api.ErrFull, nest(60)...)
	wantCheck(t, api.ErrFull, nest(60000)...)
	wantCheck(t, api.OK, nest(23, row(37)...)...)
	wantCheck(t, api.ErrFull, nest(24, file("n"))...)
	wantCheck(t, api.ErrFull, append(row(3), nest(23, file("a"), file("b", file("c")))...)...)
	wantCheck(t, api.OK, append(row(3), nest(23, file("a"), file("b"))...)...)
}

func TestP12_1Number(t *testing.T) {
	wantCheck(t, api.OK, row(60)...)
	wantCheck(t, api.ErrFull, row(61)...)
	wantCheck(t, api.ErrFull, row(100000)...)
	wantCheck(t, api.OK, file("a", row(59)...))
	wantCheck(t, api.ErrFull, file("a", row(60)...))
	wantCheck(t, api.OK, file("a", row(29)...), file("b", row(29)...))
	wantCheck(t, api.ErrFull, file("a", row(29)...), file("b", row(30)...))
	wantCheck(t, api.ErrFull, file("a", row(29)...), file("b", row(29)...), file("c"))
	// All kids of a level are one piece of memory.
	shared := []api.FileItem{file("n")}
	for range 1000 {
		shared = []api.FileItem{file("a", shared...), file("b", shared...)}
	}
	wantCheck(t, api.ErrFull, shared...)
}

// Of the errors of one definition, and of several ones.
func TestP12_1FirstError(t *testing.T) {
	bad := api.FileItem{Name: "not", Kind: 9}
	wantCheck(t, api.ErrFull, nest(24, bad)...)
	wantCheck(t, api.ErrName, nest(23, bad)...)
	wantCheck(t, api.ErrFull, append(row(60), bad)...)
	wantCheck(t, api.ErrName, append(row(59), bad)...)
	wantCheck(t, api.ErrFull, append(row(60), file("n0"))...)
	wantCheck(t, api.ErrName, file("not"), file("not"))
	wantCheck(t, api.ErrTwice, file("a"), api.FileItem{Name: "a", Kind: 9})
	wantCheck(t, api.ErrTwice, file("a"), api.FileItem{Name: "a", Multi: 9})
	wantCheck(t, api.ErrKind, api.FileItem{Name: "a", Kind: 9}, file("a"))
	wantCheck(t, api.ErrKind, api.FileItem{Name: "a", Multi: 9, Kids: []api.FileItem{file("not")}})
	// Kids come ahead of what follows in the list of their parent.
	wantCheck(t, api.ErrName, file("a", file("not")), file("a"))
	wantCheck(t, api.ErrTwice, file("a", file("b"), file("b")), file("not"))
	wantCheck(t, api.ErrKind, file("a", file("b", api.FileItem{Name: "c", Kind: 4})), file("not"))
	wantCheck(t, api.ErrFull, append(nest(25), file("not"))...)
	wantCheck(t, api.ErrName, append([]api.FileItem{file("not")}, nest(25)...)...)
	wantCheck(t, api.ErrFull, file("a", row(60)...), file("not"))
	wantCheck(t, api.ErrName, file("a", append([]api.FileItem{file("not")}, row(60)...)...))
	wantCheck(t, api.ErrName, append([]api.FileItem{file("1")}, row(61)...)...)
	wantCheck(t, api.ErrTwice, append([]api.FileItem{file("a"), file("a")}, row(61)...)...)
}

func TestP12_1Refs(t *testing.T) {
	l := row(9)
	var paths []string
	for _, f := range l {
		paths = append(paths, f.Name)
	}
	wantCheck(t, api.OK, append(l, refers("a", paths[:8]...))...)
	wantCheck(t, api.OK, append(l, file("a", refers("b", paths[1:]...)))...)
	wantCheck(t, api.ErrFull, append(l, refers("a", paths...))...)
	wantCheck(t, api.ErrFull, append(l, file("a", refers("b", paths...)))...)
	wantCheck(t, api.ErrFull, refers("a", slices.Repeat([]string{"a"}, 100000)...))
	tree := []api.FileItem{file("a", file("b", file("c")), file("d")), file("e")}
	for _, path := range []string{"a", "a.b", "a.b.c", "a.d", "e", "f"} {
		wantCheck(t, api.OK, append(tree, refers("f", path))...)
		wantCheck(t, api.ErrTwice, append(tree, refers("f", path, path))...)
		wantCheck(t, api.ErrTwice, append([]api.FileItem{refers("f", "a", path, "e", "f", path)}, tree...)...)
	}
	for _, path := range []string{"", ".", "x", "b", "a.c", "a.b.d", "a.b.c.d", "a.", ".a", "a..b", "a.b.", "e.b", "a b", "a. b", "a#1", "a#1.b#1", "A", "f.f", "a.f", strings.Repeat("a.", 100000) + "b"} {
		wantCheck(t, api.ErrName, append(tree, refers("f", path))...)
		wantCheck(t, api.ErrName, append(tree, refers("f", "a", path))...)
		wantCheck(t, api.ErrName, append(tree, refers("f", path, path))...)
	}
}

func TestP12_1FirstErrorOfRefs(t *testing.T) {
	// All definitions come ahead of all references.
	wantCheck(t, api.ErrName, refers("a", "a", "a"), file("not"))
	wantCheck(t, api.ErrKind, refers("a", "x"), file("b", api.FileItem{Name: "c", Multi: -1}))
	wantCheck(t, api.ErrTwice, refers("a", "x"), file("b"), file("b"))
	wantCheck(t, api.ErrKind, api.FileItem{Name: "a", Kind: 4, Refs: []string{"x"}})
	// Of one definition: too many, then unknown ones, then equal ones.
	wantCheck(t, api.ErrFull, refers("a", "x", "x", "a", "a", "x", "x", "x", "x", "x"))
	wantCheck(t, api.ErrName, refers("a", "a", "a", "x"))
	wantCheck(t, api.ErrName, refers("a", "x", "x"))
	// Of several ones, in preorder.
	wantCheck(t, api.ErrTwice, refers("a", "b", "b"), refers("b", "x"))
	wantCheck(t, api.ErrName, refers("a", "x"), refers("b", "b", "b"))
	wantCheck(t, api.ErrTwice, file("a", file("b", refers("c", "a", "a")), refers("d", "x")), refers("e", "x"))
	wantCheck(t, api.ErrName, file("a", refers("b", "x")), refers("e", "e", "e"))
	wantCheck(t, api.ErrName, api.FileItem{Name: "a", Refs: []string{"x"}, Kids: []api.FileItem{refers("b", "a", "a")}})
	many := slices.Repeat([]string{"a"}, 9)
	wantCheck(t, api.ErrFull, refers("a", many...), refers("b", "x"))
	wantCheck(t, api.ErrName, refers("a", "x"), refers("b", many...))
}

// sample has names that are there twice; the second ones are hidden behind the first.
func sample() []api.FileItem {
	return []api.FileItem{
		{Name: "a", Kind: 1, Multi: 2, Refs: []string{"b", "a.b"}, Kids: []api.FileItem{
			{Name: "b", Kind: 2, Kids: []api.FileItem{{Name: "c", Kind: 3, Multi: 3, Refs: []string{"a"}}}},
			{Name: "b", Kind: 3, Kids: []api.FileItem{{Name: "hidden"}}},
			{Name: "a", Kind: 2},
		}},
		{Name: "b", Refs: []string{}, Kids: []api.FileItem{}},
		{Name: "a", Kind: 3, Kids: []api.FileItem{{Name: "hidden"}}},
		{Name: "not", Kind: 1, Kids: []api.FileItem{{Name: "a b", Kind: 2}}},
		{Name: "x.y", Kind: 1},
	}
}

func TestP12_2Find(t *testing.T) {
	l := sample()
	for path, want := range map[string]api.FileItem{
		"a": l[0], "a.b": l[0].Kids[0], "a.b.c": l[0].Kids[0].Kids[0], "a.a": l[0].Kids[2], "b": {Name: "b"}, "not": l[3], "not.a b": l[3].Kids[0],
	} {
		f, is := Find(l, path)
		if len(f.Refs) == 0 && len(f.Kids) == 0 {
			f.Refs, f.Kids = want.Refs, want.Kids // nil and empty ones mean the same
		}
		if !reflect.DeepEqual(f, want) || !is {
			t.Errorf("Find(%q) = %+v, %t, want %+v", path, f, is, want)
		}
	}
	for _, path := range []string{"", ".", "x", "hidden", "a.hidden", "a.b.hidden", "c", "a.c", "a.b.", ".a", "a..b", "a.", "A", "a b", "a#1", "a#1.b", "b.b", "b.", "x.y", "x", "y", "a.b.c.c", " a", strings.Repeat("a.", 100000)} {
		if f, is := Find(l, path); !reflect.DeepEqual(f, api.FileItem{}) || is {
			t.Errorf("Find(%.80q) = %+v, %t", path, f, is)
		}
		if f, is := Find(nil, path); !reflect.DeepEqual(f, api.FileItem{}) || is {
			t.Errorf("Find(%.80q) of nothing = %+v, %t", path, f, is)
		}
	}
}

func TestP12_2FindDeep(t *testing.T) {
	l := nest(60000)
	path := strings.Repeat("n.", 29999) + "n"
	f, is := Find(l, path)
	deep := 0
	for ; len(f.Kids) > 0; f = f.Kids[0] {
		deep++
	}
	if deep != 30000 || !is {
		t.Error(deep, is)
	}
	if _, is := Find(l, path+"."); is {
		t.Error("found")
	}
}

func TestP12_2Paths(t *testing.T) {
	if l := Paths(nil); len(l) != 0 {
		t.Error(l)
	}
	if l := Paths([]api.FileItem{}); len(l) != 0 {
		t.Error(l)
	}
	want := []string{"a", "a.b", "a.b.c", "a.b", "a.b.hidden", "a.a", "b", "a", "a.hidden", "not", "not.a b", "x.y"}
	if l := Paths(sample()); !slices.Equal(l, want) {
		t.Errorf("%q", l)
	}
	tree := []api.FileItem{file("z", file("y", file("x"), file("a")), file("b")), file("a", file("a", file("a"))), file("m")}
	want = []string{"z", "z.y", "z.y.x", "z.y.a", "z.b", "a", "a.a", "a.a.a", "m"}
	if l := Paths(tree); !slices.Equal(l, want) {
		t.Errorf("%q", l)
	}
	for _, path := range want {
		f, is := Find(tree, path)
		if !is || path != f.Name && !strings.HasSuffix(path, "."+f.Name) {
			t.Errorf("Find(%q) = %+v, %t", path, f, is)
		}
	}
	if l := Paths([]api.FileItem{file("", file("", file("a")))}); !slices.Equal(l, []string{"", ".", "..a"}) {
		t.Errorf("%q", l)
	}
	if l := Paths(nest(2000)); len(l) != 2000 || l[0] != "n" || len(l[1999]) != 3999 {
		t.Error(len(l))
	}
	if l := Paths(row(3000)); len(l) != 3000 || l[2999] != "n2999" {
		t.Error(len(l))
	}
}

// spoil changes all that lies in the lists of f, with their spare capacity.
func spoil(f api.FileItem) {
	refs, kids := f.Refs[:cap(f.Refs)], f.Kids[:cap(f.Kids)]
	for i := range refs {
		refs[i] = "spoilt"
	}
	for i := range kids {
		spoil(kids[i])
		kids[i] = file("spoilt")
	}
}

func TestP12_2Memory(t *testing.T) {
	l := append(sample(), file("spare"))[:5]
	l[0].Refs = append(l[0].Refs, "spare")[:2]
	for _, path := range Paths(sample()) {
		f, _ := Find(l, path)
		g, _ := Find(l, path)
		before := g
		spoil(f)
		if !reflect.DeepEqual(l, sample()) || !reflect.DeepEqual(g, before) || l[:6][5].Name != "spare" || l[0].Refs[:3][2] != "spare" {
			t.Fatalf("Find(%q) shares memory", path)
		}
		if again, _ := Find(l, path); !reflect.DeepEqual(again, g) {
			t.Fatalf("Find(%q) shares memory with another result", path)
		}
	}
	if _, is := Find(l, "spare"); is {
		t.Error("the spare capacity counts")
	}
	first := Paths(l)
	second := Paths(l)
	for i := range first[:cap(first)] {
		first[:cap(first)][i] = "spoilt"
	}
	if !slices.Equal(second, Paths(sample())) {
		t.Error("two results share memory")
	}
	Check(l)
	Check(append(row(3), refers("a", "n0", "n1")))
	if !reflect.DeepEqual(l, sample()) {
		t.Error("an argument was modified")
	}
}
