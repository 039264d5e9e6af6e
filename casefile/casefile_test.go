package casefile

import (
	"math"
	"reflect"
	"slices"
	"strconv"
	"strings"
	"testing"

	"dossier/api"
	"dossier/shape"
	"dossier/value"
)

// files are definitions of all kinds and multiplicities.
func files() []api.FileItem {
	return []api.FileItem{
		{Name: "a", Kind: api.KindInt, Multi: api.MultiAny, Refs: []string{"a", "b", "a.c"}, Kids: []api.FileItem{
			{Name: "c", Kind: api.KindText, Multi: api.MultiSome},
			{Name: "d", Multi: api.MultiMaybe, Kids: []api.FileItem{{Name: "e", Kind: api.KindBool, Multi: api.MultiOne, Refs: []string{"b"}}, {Name: "c", Multi: api.MultiAny}}}}},
		{Name: "b", Kind: api.KindBool, Multi: api.MultiOne},
		{Name: "f", Kind: api.KindText, Multi: api.MultiMaybe},
		{Name: "g", Multi: api.MultiSome, Refs: []string{"g"}},
	}
}

func doc(path string, v api.Value, refs ...string) api.Doc {
	return api.Doc{Path: path, Value: v, Refs: refs}
}

var none api.Value

// docs is a valid list.
func docs() []api.Doc {
	return []api.Doc{
		doc("a#1", value.Int(-5), "a#10", "b#1", "a#1.c#3"),
		doc("a#1.c#1", value.Text("")),
		doc("a#1.c#3", value.Text("three")),
		doc("a#1.d#1", none),
		doc("a#1.d#1.c#2", none),
		doc("a#1.d#1.e#1", value.Bool(false), "b#1"),
		doc("a#2", none, "a#1", "a#1.c#1", "a#2", "a#2.c#7"),
		doc("a#2.c#7", none),
		doc("a#10", value.Int(10), "a#2.c#7"),
		doc("b#1", value.Bool(true)),
		doc("g#1", none, "g#4"),
		doc("g#4", none),
	}
}

func same(a, b []api.Doc) bool {
	return slices.EqualFunc(a, b, func(x, y api.Doc) bool {
		return x.Path == y.Path && x.Value == y.Value && slices.Equal(x.Refs, y.Refs)
	})
}

// changed is the valid list with changes to the instances at some paths.
func changed(change func(d *api.Doc), paths ...string) []api.Doc {
	l := docs()
	for k := range l {
		if slices.Contains(paths, l[k].Path) {
			change(&l[k])
		}
	}
	return l
}

// plus is the valid list with instances more, put in their places.
func plus(more ...api.Doc) []api.Doc {
	l := append(docs(), more...)
	slices.SortStableFunc(l, func(a, b api.Doc) int { return shape.Order(a.Path, b.Path) })
	return l
}

// minus is the valid list without those at and below some paths, and without references to them.
func minus(paths ...string) []api.Doc {
	gone := func(s string) bool {
		return slices.ContainsFunc(paths, func(path string) bool { return s == path || strings.HasPrefix(s, path+".") })
	}
	l := slices.DeleteFunc(docs(), func(d api.Doc) bool { return gone(d.Path) })
	for k := range l {
		l[k].Refs = slices.DeleteFunc(l[k].Refs, gone)
	}
	return l
}

func wantCan(t *testing.T, want bool, what string, l []api.Doc) {
	t.Helper()
	if is := Can(files(), l); is != want {
		t.Errorf("%s: Can(%.1000v) = %t", what, l, is)
	}
	// Whatever is asked for, nothing is done to a list that is not valid.
	got, events, err := Do(files(), l, api.EvCreate, "", "a", none)
	if (err == api.ErrArg) == want || err != api.OK && (len(got) > 0 || len(events) > 0) {
		t.Errorf("%s: error %d for %.1000v", what, err, l)
	}
}

func TestP16_2Can(t *testing.T) {
	wantCan(t, true, "docs", docs())
	wantCan(t, true, "nil", nil)
	wantCan(t, true, "empty", []api.Doc{})
	if !Can(nil, nil) || !Can([]api.FileItem{}, []api.Doc{}) || Can(nil, docs()) {
		t.Error("without definitions")
	}
	if wrong := append(files(), api.FileItem{Name: "a"}); Can(wrong, nil) || Can(wrong, docs()) {
		t.Error("definitions that are not valid")
	}
	l := files()
	l[0].Refs = append(l[0].Refs, "none")
	if Can(l, nil) {
		t.Error("a reference that is not valid")
	}
}

func TestP16_2CanOrder(t *testing.T) {
	wantCan(t, false, "twice", plus(doc("a#2", none)))
	wantCan(t, false, "twice at the end", append(docs(), docs()[11]))
	for k := range len(docs()) - 1 {
		l := docs()
		l[k], l[k+1] = l[k+1], l[k]
		wantCan(t, false, "two in the wrong order", l)
	}
	wantCan(t, false, "in the order of bytes", []api.Doc{doc("a#10", none), doc("a#2", none)})
	wantCan(t, true, "in the order of numbers", []api.Doc{doc("a#2", none), doc("a#10", none)})
	wantCan(t, false, "a kid ahead of its parent", []api.Doc{doc("a#1.c#1", none), doc("a#1", none)})
	var many []api.Doc
	for k := range 101 {
		many = append(many, doc("a#"+strconv.Itoa(k+1), none))
	}
	wantCan(t, true, "99", many[:99])
	if !Can(files(), many[:100]) || Can(files(), many) || Can(files(), slices.Repeat(many, 2000)) {
		t.Error("100 are allowed, and no more")
	}
}

func TestP16_2CanDefinitions(t *testing.T) {
	for _, path := range []string{"x#1", "a#1.x#1", "c#1", "a#1.d#1.x#1", "b#1.c#1", "", "a", "a#", "a#0", "a#-1", "a#01", "a#1.", ".a#1", "a.c#1", "a#1.c", "#1", "A#1", "a #1", "a#9223372036854775808", "a#1#1", "not#1", "\xff"} {
		wantCan(t, false, path, plus(doc(path, none)))
		wantCan(t, false, path, []api.Doc{doc(path, none)})
	}
	for _, path := range []string{"a#3.c#1", "a#2.d#1.e#1", "a#10.d#2.c#1", "a#9223372036854775807.c#1"} {
		wantCan(t, false, "no parent: "+path, plus(doc(path, none)))
	}
	wantCan(t, true, "great numbers", plus(doc("a#9223372036854775807", none), doc("a#9223372036854775807.d#9223372036854775807", none), doc("f#5000000000000000000", none)))
}

func TestP16_2CanValues(t *testing.T) {
	long := strings.Repeat("x", 256)
	for path, good := range map[string][]api.Value{
		"a#1":     {none, value.Int(0), value.Int(math.MinInt), value.Int(math.MaxInt)},
		"a#1.c#1": {none, value.Text(""), value.Text(long), value.Text("\u00e9\n")},
		"a#1.d#1": {none},
		"b#1":     {none, value.Bool(true), value.Bool(false)},
	} {
		for _, v := range good {
			wantCan(t, true, path, changed(func(d *api.Doc) { d.Value = v }, path))
		}
		for _, v := range []api.Value{value.Int(1), value.Bool(true), value.Text("x"), value.Text(long + "x"), value.Text("\x00"), value.Text("\xff"), {Int: 1}, {Bool: true}, {Text: "x"},
			{Kind: api.KindInt, Bool: true}, {Kind: api.KindInt, Text: "x"}, {Kind: api.KindBool, Int: 1}, {Kind: api.KindText, Int: 1}, {Kind: 4}, {Kind: -1}, {Kind: math.MaxInt}} {
			if f, _ := definition(files(), path); !value.Can(v) || v.Kind != f.Kind {
				wantCan(t, false, path, changed(func(d *api.Doc) { d.Value = v }, path))
			}
		}
	}
}

func TestP16_2CanMulti(t *testing.T) {
	for _, path := range []string{"b#2", "b#9223372036854775807", "a#1.d#2", "a#1.d#1.e#2"} {
		wantCan(t, false, path, plus(doc(path, none)))
	}
	wantCan(t, false, "f twice", plus(doc("f#1", none), doc("f#2", none)))
	wantCan(t, false, "two kids far from each other", plus(doc("a#1.d#2", none), doc("a#1.d#2.c#1", none)))
	for _, path := range []string{"f#1", "f#2", "a#2.d#1", "a#10.d#5", "a#1.c#2", "a#1.d#1.c#1", "a#3", "g#2"} {
		wantCan(t, true, path, plus(doc(path, none)))
	}
	wantCan(t, true, "one below each parent", plus(doc("a#2.d#1", none), doc("a#2.d#1.e#1", none)))
	wantCan(t, true, "none of those of which one must stay", []api.Doc{doc("a#1", none), doc("a#1.d#1", none)})
}

func TestP16_2CanRefs(t *testing.T) {
	refer := func(path string, refs ...string) []api.Doc {
		return changed(func(d *api.Doc) { d.Refs = refs }, path)
	}
	wantCan(t, true, "none", refer("a#1"))
	wantCan(t, true, "itself", refer("a#1", "a#1"))
	wantCan(t, true, "in any order", refer("a#1", "b#1", "a#10", "a#2", "a#1.c#1", "a#1"))
	for _, refs := range [][]string{{"a#1", "a#1"}, {"b#1", "a#1", "b#1"}, {"a#3"}, {"a#1", "b#2"}, {"a#1.d#1"}, {"g#1"}, {"a#1.d#1.c#2"}, {""}, {"a"}, {"b"}, {"a#1", "a#01"}, {"a.c"}, {"a#1.c"}, {"\x00"}} {
		wantCan(t, false, strings.Join(refs, " "), refer("a#1", refs...))
	}
	wantCan(t, false, "of a definition without any", refer("b#1", "b#1"))
	wantCan(t, false, "of another definition's", refer("a#1.d#1.e#1", "a#1"))
	var more []api.Doc
	refs := []string{"a#1", "a#2"}
	for k := range 9 {
		path := "a#" + strconv.Itoa(k+20)
		more = append(more, doc(path, none))
		refs = append(refs, path)
	}
	l := plus(more...)
	l[0].Refs = refs[:8]
	wantCan(t, true, "8", l)
	l[0].Refs = refs[:9]
	wantCan(t, false, "9", l)
	l[0].Refs = slices.Repeat([]string{"b#1"}, 1<<20)
	wantCan(t, false, "many", l)
}

func TestP16_2Find(t *testing.T) {
	for _, d := range docs() {
		if got, is := Find(docs(), d.Path); !is || !same([]api.Doc{got}, []api.Doc{d}) {
			t.Errorf("Find(%q) = %v, %t", d.Path, got, is)
		}
	}
	for _, path := range []string{"", "a", "a#3", "a#1.", "a#1.c#2", "c#1", "A#1", "a#01", "\x00"} {
		if got, is := Find(docs(), path); is || !reflect.DeepEqual(got, api.Doc{}) {
			t.Errorf("Find(%q) = %v, %t", path, got, is)
		}
	}
	if got, is := Find(nil, ""); is || !reflect.DeepEqual(got, api.Doc{}) {
		t.Error("nil:", got, is)
	}
	// Lists made by hand.
	l := []api.Doc{doc("b", value.Int(1)), doc("", value.Int(2)), doc("b", value.Int(3)), doc("a#2", value.Int(4), "x", "x")}
	for path, n := range map[string]int{"b": 1, "": 2, "a#2": 4} {
		if got, is := Find(l, path); !is || got.Path != path || got.Value.Int != n {
			t.Errorf("Find(%q) = %v, %t", path, got, is)
		}
	}
}

func wantKids(t *testing.T, l []api.Doc, path, name string, want ...string) {
	t.Helper()
	var paths []string
	for _, d := range Kids(l, path, name) {
		paths = append(paths, d.Path)
		if whole, _ := Find(l, d.Path); !same([]api.Doc{whole}, []api.Doc{d}) {
			t.Errorf("Kids(%q, %q) has %v", path, name, d)
		}
	}
	if !slices.Equal(paths, want) {
		t.Errorf("Kids(%q, %q) = %q, want %q", path, name, paths, want)
	}
}

func TestP16_2Kids(t *testing.T) {
	l := docs()
	wantKids(t, l, "", "", "a#1", "a#2", "a#10", "b#1", "g#1", "g#4")
	wantKids(t, l, "", "a", "a#1", "a#2", "a#10")
	wantKids(t, l, "", "g", "g#1", "g#4")
	wantKids(t, l, "a#1", "", "a#1.c#1", "a#1.c#3", "a#1.d#1")
	wantKids(t, l, "a#1", "c", "a#1.c#1", "a#1.c#3")
	wantKids(t, l, "a#1.d#1", "", "a#1.d#1.c#2", "a#1.d#1.e#1")
	wantKids(t, l, "a#2", "c", "a#2.c#7")
	for _, x := range [][2]string{{"", "c"}, {"", "f"}, {"", "a#1"}, {"", "a.c"}, {"a#1", "e"}, {"a#1", "a"}, {"a#10", ""}, {"a", ""}, {"a#", ""}, {"a#1.", ""}, {"a#1.c#1", ""}, {"b#1", "b"}, {"x", "x"}, {"a#1", "c#1"}} {
		wantKids(t, l, x[0], x[1])
	}
	wantKids(t, nil, "", "")
	// In lists made by hand the order is theirs. What is no instance path has no name.
	l = []api.Doc{doc("b#2", none), doc("x.y#1", none), doc("a#1", none), doc("x.b", none), doc("", none), doc("b#1", none), doc(".z#1", none)}
	wantKids(t, l, "", "", "b#2", "a#1", "", "b#1", ".z#1")
	wantKids(t, l, "", "b", "b#2", "b#1")
	wantKids(t, l, "", "z")
	wantKids(t, l, "x", "", "x.y#1", "x.b")
	wantKids(t, l, "x", "y")
	wantKids(t, l, "x", "b")
}

// stretch gives all lists spare capacity that is not empty.
func stretch(l []api.Doc) []api.Doc {
	long := append(append([]api.Doc(nil), l...), doc("spare", none))
	for k, d := range long {
		long[k].Refs = append(append([]string(nil), d.Refs...), "spare")[:len(d.Refs)]
	}
	return long[:len(l)]
}

// stretched reports whether what stretch put into the spare capacity is still there.
func stretched(l []api.Doc) bool {
	for _, d := range l {
		if d.Refs[:len(d.Refs)+1][len(d.Refs)] != "spare" {
			return false
		}
	}
	return l[:len(l)+1][len(l)].Path == "spare"
}

// spoilSpare changes the spare capacity of all lists.
func spoilSpare(l []api.Doc) {
	for _, d := range l {
		for k := len(d.Refs); k < cap(d.Refs); k++ {
			d.Refs[:cap(d.Refs)][k] = "spoilt"
		}
	}
	for k := len(l); k < cap(l); k++ {
		l[:cap(l)][k] = doc("spoilt", none)
	}
}

// spoil changes all lists.
func spoil(l []api.Doc) {
	for k, d := range l {
		for n := range d.Refs {
			d.Refs[n] = "spoilt"
		}
		l[k] = doc("spoilt", none)
	}
}

// wantOwn holds what a call returns for a list to be in memory of its own.
func wantOwn(t *testing.T, call func(l []api.Doc) []api.Doc) {
	t.Helper()
	l := stretch(docs())
	got := call(l)
	again := call(l)
	if !same(l, docs()) || !stretched(l) {
		t.Error("an argument was modified")
	}
	spoilSpare(got)
	if !same(got, again) {
		t.Error("two lists share memory")
	}
	spoil(got)
	if !same(l, docs()) || !stretched(l) {
		t.Error("a result shares memory with the argument")
	}
	if !same(call(l), again) {
		t.Error("two results share memory")
	}
	spoil(l)
	if !same(call(stretch(docs())), again) {
		t.Error("an argument is retained")
	}
}

func TestP16_2Memory(t *testing.T) {
	wantOwn(t, func(l []api.Doc) []api.Doc { return Kids(l, "", "") })
	wantOwn(t, func(l []api.Doc) []api.Doc { return Kids(l, "a#1", "c") })
	for _, path := range []string{"a#1", "b#1", "a#2"} {
		wantOwn(t, func(l []api.Doc) []api.Doc {
			d, _ := Find(l, path)
			return []api.Doc{d}
		})
	}
	l := files()
	l[0].Kids = append(l[0].Kids, api.FileItem{Name: "spare"})[:2]
	if !Can(l, stretch(docs())) || !reflect.DeepEqual(l, files()) || l[0].Kids[:3][2].Name != "spare" {
		t.Error("definitions were modified")
	}
}
