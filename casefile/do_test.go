package casefile

import (
	"math"
	"reflect"
	"slices"
	"strconv"
	"strings"
	"testing"

	"dossier/api"
	"dossier/value"
)

func event(event int, path string) api.Event {
	return api.Event{Path: path, File: true, Event: event}
}

// gone are the events of deleted instances.
func gone(paths ...string) []api.Event {
	var l []api.Event
	for _, path := range paths {
		l = append(l, event(api.EvDelete, path))
	}
	return l
}

// A deed is what Do is asked to do.
type deed struct {
	event      int
	path, name string
	v          api.Value
}

func (x deed) do(l []api.Doc) ([]api.Doc, []api.Event, api.Errno) {
	return Do(files(), l, x.event, x.path, x.name, x.v)
}

// want holds what is done to a list to a new list and to events.
func (x deed) want(t *testing.T, l, want []api.Doc, events ...api.Event) {
	t.Helper()
	got, occurred, err := x.do(l)
	if err != api.OK || !same(got, want) || !slices.Equal(occurred, events) {
		t.Errorf("%v: error %d,\n%v, %v,\nwant\n%v, %v", x, err, got, occurred, want, events)
	}
	if !Can(files(), got) {
		t.Errorf("%v: %v is not valid", x, got)
	}
}

func (x deed) fails(t *testing.T, l []api.Doc, want api.Errno) {
	t.Helper()
	got, occurred, err := x.do(l)
	if err != want || len(got) > 0 || len(occurred) > 0 {
		t.Errorf("%v: error %d, want error %d, %v, %v", x, err, want, got, occurred)
	}
}

func TestP16_1Create(t *testing.T) {
	for name, x := range map[string]struct {
		path string
		v    []api.Value
	}{
		"a": {"a#11", []api.Value{none, value.Int(0), value.Int(math.MinInt)}},
		"f": {"f#1", []api.Value{none, value.Text(""), value.Text(strings.Repeat("x", 256))}},
		"g": {"g#5", []api.Value{none}},
	} {
		for _, v := range x.v {
			deed{api.EvCreate, "", name, v}.want(t, docs(), plus(doc(x.path, v)), event(api.EvCreate, x.path))
		}
	}
	for _, name := range []string{"a", "b", "f", "g"} {
		first := name + "#1"
		deed{api.EvCreate, "", name, none}.want(t, nil, []api.Doc{doc(first, none)}, event(api.EvCreate, first))
	}
	deed{api.EvCreate, "", "a", none}.want(t, []api.Doc{doc("a#7", none)}, []api.Doc{doc("a#7", none), doc("a#8", none)}, event(api.EvCreate, "a#8"))
	deed{api.EvCreate, "", "a", none}.want(t, []api.Doc{doc("b#5", none)}, []api.Doc{doc("a#1", none), doc("b#5", none)}, event(api.EvCreate, "a#1"))
}

func TestP16_1CreateErrors(t *testing.T) {
	wrong, other := value.Int(1), value.Bool(true)
	for _, path := range []string{"a#1", "a", ".", " ", "x"} {
		deed{api.EvCreate, path, "a", none}.fails(t, docs(), api.ErrArg)
		deed{api.EvCreate, path, "none", other}.fails(t, docs(), api.ErrArg)
	}
	for _, name := range []string{"", "none", "c", "A", "a#1", "a#11", "a.c", "a ", ".a", "a#1.c", "not"} {
		deed{api.EvCreate, "", name, none}.fails(t, docs(), api.ErrNone)
		deed{api.EvCreate, "", name, api.Value{Kind: 9}}.fails(t, docs(), api.ErrNone)
	}
	for name, values := range map[string][]api.Value{
		"a": {other, value.Text(""), {Kind: api.KindInt, Int: 1, Text: "x"}, {Int: 1}, {Kind: 4}},
		"f": {wrong, value.Text(strings.Repeat("x", 257)), value.Text("\x00")},
		"g": {wrong, other, value.Text(""), {Bool: true}, {Kind: -1}},
		"b": {wrong, value.Text("true")}, // there is one already
	} {
		for _, v := range values {
			deed{api.EvCreate, "", name, v}.fails(t, docs(), api.ErrKind)
		}
	}
	deed{api.EvCreate, "", "b", none}.fails(t, docs(), api.ErrMulti)
	deed{api.EvCreate, "", "b", other}.fails(t, docs(), api.ErrMulti)
	deed{api.EvCreate, "", "f", none}.fails(t, plus(doc("f#3", none)), api.ErrMulti)
	deed{api.EvCreate, "", "b", none}.fails(t, []api.Doc{doc("b#9223372036854775807", none)}, api.ErrMulti)
}

// crowd is a valid list of so many instances, of which b#1 is one.
func crowd(many int) []api.Doc {
	var l []api.Doc
	for k := range many - 1 {
		l = append(l, doc("a#"+strconv.Itoa(k+1), none))
	}
	return append(l, doc("b#1", none))
}

func TestP16_1CreateFull(t *testing.T) {
	for n := range 3 {
		l := crowd(98 + n)
		x := deed{api.EvCreate, "", "a", none}
		y := deed{api.EvAddChild, "a#5", "c", none}
		if n < 2 {
			path := "a#" + strconv.Itoa(98+n)
			x.want(t, l, append(slices.Clone(l[:97+n]), doc(path, none), doc("b#1", none)), event(api.EvCreate, path))
			y.want(t, l, slices.Insert(slices.Clone(l), 5, doc("a#5.c#1", none)), event(api.EvAddChild, "a#5"), event(api.EvCreate, "a#5.c#1"))
			continue
		}
		x.fails(t, l, api.ErrFull)
		y.fails(t, l, api.ErrFull)
		deed{api.EvCreate, "", "none", none}.fails(t, l, api.ErrNone)
		deed{api.EvCreate, "", "a", value.Text("")}.fails(t, l, api.ErrKind)
		deed{api.EvCreate, "", "b", none}.fails(t, l, api.ErrMulti)
	}
	for last, next := range map[string]string{"4611686018427387902": "4611686018427387903", "4611686018427387903": "4611686018427387904", "4611686018427387904": "", "9223372036854775806": "", "9223372036854775807": ""} {
		l := []api.Doc{doc("a#1", none), doc("a#"+last, none), doc("a#"+last+".c#"+last, none), doc("g#1", none)}
		x := deed{api.EvCreate, "", "a", none}
		y := deed{api.EvAddChild, "a#" + last, "c", none}
		if next == "" {
			x.fails(t, l, api.ErrFull)
			y.fails(t, l, api.ErrFull)
			continue
		}
		x.want(t, l, slices.Insert(slices.Clone(l), 3, doc("a#"+next, none)), event(api.EvCreate, "a#"+next))
		path := "a#" + last + ".c#" + next
		y.want(t, l, slices.Insert(slices.Clone(l), 3, doc(path, none)), event(api.EvAddChild, "a#"+last), event(api.EvCreate, path))
	}
}

func TestP16_1AddChild(t *testing.T) {
	for _, x := range []struct {
		up, name, path string
		v              api.Value
	}{{"a#1", "c", "a#1.c#4", value.Text("new")}, {"a#2", "c", "a#2.c#8", none}, {"a#10", "c", "a#10.c#1", none}, {"a#10", "d", "a#10.d#1", none}, {"a#1.d#1", "c", "a#1.d#1.c#3", none}} {
		deed{api.EvAddChild, x.up, x.name, x.v}.want(t, docs(), plus(doc(x.path, x.v)), event(api.EvAddChild, x.up), event(api.EvCreate, x.path))
	}
	deed{api.EvAddChild, "a#10.d#1", "e", value.Bool(true)}.want(t, plus(doc("a#10.d#1", none)), plus(doc("a#10.d#1", none), doc("a#10.d#1.e#1", value.Bool(true))), event(api.EvAddChild, "a#10.d#1"), event(api.EvCreate, "a#10.d#1.e#1"))
	for _, x := range [][2]string{{"", "a"}, {"", "c"}, {"a#3", "c"}, {"a", "c"}, {"a#1.", "c"}, {"x#1", "c"}, {"a#1", ""}, {"a#1", "a"}, {"a#1", "e"}, {"a#1", "d.e"}, {"a#1", "c#1"}, {"a#1", "d#1.e"}, {"b#1", "b"}, {"b#1", ""}, {"a#1.c#1", "c"}} {
		deed{api.EvAddChild, x[0], x[1], none}.fails(t, docs(), api.ErrNone)
		deed{api.EvAddChild, x[0], x[1], api.Value{Kind: 9}}.fails(t, docs(), api.ErrNone)
	}
	deed{api.EvAddChild, "a#1", "c", value.Int(1)}.fails(t, docs(), api.ErrKind)
	deed{api.EvAddChild, "a#1", "d", value.Int(1)}.fails(t, docs(), api.ErrKind)
	deed{api.EvAddChild, "a#1", "d", none}.fails(t, docs(), api.ErrMulti)
	deed{api.EvAddChild, "a#1.d#1", "e", none}.fails(t, docs(), api.ErrMulti)
}

func TestP16_1Update(t *testing.T) {
	for path, values := range map[string][]api.Value{"a#1": {none, value.Int(-5), value.Int(7)}, "a#1.c#3": {none, value.Text("x")}, "a#1.d#1": {none}, "b#1": {none, value.Bool(false)}, "a#2": {value.Int(2)}} {
		for _, v := range values {
			deed{api.EvUpdate, path, "", v}.want(t, docs(), changed(func(d *api.Doc) { d.Value = v }, path), event(api.EvUpdate, path))
		}
	}
}

func TestP16_1Replace(t *testing.T) {
	set := func(l []api.Doc, path string, v api.Value) []api.Doc {
		l[index(l, path)].Value = v
		return l
	}
	one := value.Int(1)
	deed{api.EvReplace, "a#1", "", one}.want(t, docs(), set(minus("a#1.c#1", "a#1.c#3", "a#1.d#1"), "a#1", one),
		append(gone("a#1.c#1", "a#1.c#3", "a#1.d#1", "a#1.d#1.c#2", "a#1.d#1.e#1"), event(api.EvReplace, "a#1"))...)
	deed{api.EvReplace, "a#1.d#1", "", none}.want(t, docs(), minus("a#1.d#1.c#2", "a#1.d#1.e#1"), append(gone("a#1.d#1.c#2", "a#1.d#1.e#1"), event(api.EvReplace, "a#1.d#1"))...)
	deed{api.EvReplace, "a#2", "", one}.want(t, docs(), set(minus("a#2.c#7"), "a#2", one), append(gone("a#2.c#7"), event(api.EvReplace, "a#2"))...)
	// What only begins with the same text stays: a#10, and references of the instance and to it.
	deed{api.EvReplace, "a#10", "", none}.want(t, docs(), set(docs(), "a#10", none), event(api.EvReplace, "a#10"))
	deed{api.EvReplace, "b#1", "", none}.want(t, docs(), set(docs(), "b#1", none), event(api.EvReplace, "b#1"))
}

func TestP16_1SetErrors(t *testing.T) {
	for _, event := range []int{api.EvReplace, api.EvUpdate} {
		for _, name := range []string{"a", " ", "a#1"} {
			deed{event, "a#1", name, none}.fails(t, docs(), api.ErrArg)
			deed{event, "none", name, value.Text("")}.fails(t, docs(), api.ErrArg)
		}
		for _, path := range []string{"", "a", "a#3", "a#1.c#2", "a#01", "a#1.", "none"} {
			deed{event, path, "", none}.fails(t, docs(), api.ErrNone)
			deed{event, path, "", api.Value{Kind: 9}}.fails(t, docs(), api.ErrNone)
		}
		for path, v := range map[string]api.Value{"a#1": value.Bool(true), "a#2": value.Text("2"), "a#1.c#1": value.Int(1), "a#1.d#1": value.Int(0), "b#1": {Kind: api.KindBool, Int: 1}, "g#1": {Text: "x"}, "a#10": {Kind: 7}} {
			deed{event, path, "", v}.fails(t, docs(), api.ErrKind)
		}
	}
}

func TestP16_1Delete(t *testing.T) {
	for path, deleted := range map[string][]string{
		"a#1": {"a#1", "a#1.c#1", "a#1.c#3", "a#1.d#1", "a#1.d#1.c#2", "a#1.d#1.e#1"}, "a#1.c#1": {"a#1.c#1"}, "a#1.c#3": {"a#1.c#3"}, "a#1.d#1": {"a#1.d#1", "a#1.d#1.c#2", "a#1.d#1.e#1"},
		"a#1.d#1.c#2": {"a#1.d#1.c#2"}, "a#2": {"a#2", "a#2.c#7"}, "a#10": {"a#10"}, "g#1": {"g#1"}, "g#4": {"g#4"},
	} {
		// The value is of no account.
		for _, v := range []api.Value{none, value.Text(""), {Kind: 9}} {
			deed{api.EvDelete, path, "", v}.want(t, docs(), minus(path), gone(deleted...)...)
		}
	}
	deed{api.EvDelete, "f#2", "", none}.want(t, plus(doc("f#2", none)), docs(), gone("f#2")...)
	deed{api.EvDelete, "a#3", "", none}.want(t, []api.Doc{doc("a#3", none)}, nil, gone("a#3")...)
	for _, path := range []string{"", "a", "a#3", "a#1.c#2", "a#1.c", "none#1"} {
		deed{api.EvDelete, path, "", none}.fails(t, docs(), api.ErrNone)
	}
	for _, path := range []string{"b#1", "a#1.d#1.e#1", "a#2.c#7"} {
		deed{api.EvDelete, path, "", none}.fails(t, docs(), api.ErrMulti)
	}
	deed{api.EvDelete, "g#1", "", none}.fails(t, []api.Doc{doc("g#1", none)}, api.ErrMulti)
	for _, name := range []string{"a", "c#1", " "} {
		deed{api.EvDelete, "a#1", name, none}.fails(t, docs(), api.ErrArg)
		deed{api.EvDelete, "none", name, none}.fails(t, docs(), api.ErrArg)
	}
}

func TestP16_1CutChild(t *testing.T) {
	for _, x := range []struct {
		path, name string
		deleted    []string
	}{{"a#1", "c#1", []string{"a#1.c#1"}}, {"a#1", "c#3", []string{"a#1.c#3"}}, {"a#1", "d#1", []string{"a#1.d#1", "a#1.d#1.c#2", "a#1.d#1.e#1"}}, {"a#1.d#1", "c#2", []string{"a#1.d#1.c#2"}}} {
		deed{api.EvCutChild, x.path, x.name, api.Value{Kind: 9}}.want(t, docs(), minus(x.path+"."+x.name), append(gone(x.deleted...), event(api.EvCutChild, x.path))...)
	}
	for _, x := range [][2]string{{"", "a#1"}, {"", ""}, {"a#1", ""}, {"a#1", "c#2"}, {"a#1", "c"}, {"a#1", "a#1.c#1"}, {"a#3", "c#1"}, {"a#1", "d#1.c#2"}, {"a#1", "d#1.e#1"}, {"a#1.d", "e#1"}, {"a", "c#1"}, {"a#1.", "c#1"}, {"a#1", ".c#1"}, {"a#2", "d#1"}, {"a#1", "c#01"}, {"b#1", "b#1"}} {
		deed{api.EvCutChild, x[0], x[1], none}.fails(t, docs(), api.ErrNone)
	}
	deed{api.EvCutChild, "a#1.d#1", "e#1", none}.fails(t, docs(), api.ErrMulti)
	deed{api.EvCutChild, "a#2", "c#7", none}.fails(t, docs(), api.ErrMulti)
}

func TestP16_1AddRef(t *testing.T) {
	for _, x := range [][2]string{{"a#1", "a#1"}, {"a#1", "a#2"}, {"a#1", "a#1.c#1"}, {"a#1", "a#2.c#7"}, {"a#10", "a#1.c#1"}, {"g#4", "g#4"}, {"g#4", "g#1"}, {"g#1", "g#1"}} {
		deed{api.EvAddRef, x[0], x[1], api.Value{Kind: 9}}.want(t, docs(), changed(func(d *api.Doc) { d.Refs = append(d.Refs, x[1]) }, x[0]), event(api.EvAddRef, x[0]))
	}
	for _, x := range [][2]string{{"", "a#1"}, {"a#1", ""}, {"", ""}, {"a#3", "a#1"}, {"a#1", "a#3"}, {"a#1", "b"}, {"a", "b#1"}, {"a#1", "c#1"}, {"b#1", "b#2"}, {"none", "none"}} {
		deed{api.EvAddRef, x[0], x[1], none}.fails(t, docs(), api.ErrNone)
	}
	for _, x := range [][2]string{{"a#1", "g#1"}, {"a#1", "a#1.d#1"}, {"a#1", "a#1.d#1.c#2"}, {"b#1", "b#1"}, {"a#1.d#1.e#1", "a#1"}, {"a#1.c#1", "b#1"}, {"g#4", "a#1"}} {
		deed{api.EvAddRef, x[0], x[1], none}.fails(t, docs(), api.ErrKind)
	}
	for _, d := range docs() {
		for _, ref := range d.Refs {
			deed{api.EvAddRef, d.Path, ref, none}.fails(t, docs(), api.ErrTwice)
		}
	}
}

func TestP16_1AddRefFull(t *testing.T) {
	l := crowd(20)
	for k := range 8 {
		path := "a#" + strconv.Itoa(k+5)
		want := stretch(l)
		want[2].Refs = append(want[2].Refs, path)
		deed{api.EvAddRef, "a#3", path, none}.want(t, l, want, event(api.EvAddRef, "a#3"))
		l = want
	}
	deed{api.EvAddRef, "a#3", "b#1", none}.fails(t, l, api.ErrFull)
	deed{api.EvAddRef, "a#3", "a#7", none}.fails(t, l, api.ErrTwice)
	deed{api.EvAddRef, "a#3", "b#2", none}.fails(t, l, api.ErrNone)
	l = append(l, doc("g#1", none))
	deed{api.EvAddRef, "a#3", "g#1", none}.fails(t, l, api.ErrKind)
}

func TestP16_1CutRef(t *testing.T) {
	for k, d := range docs() {
		for n, ref := range d.Refs {
			want := docs()
			want[k].Refs = slices.Delete(want[k].Refs, n, n+1)
			deed{api.EvCutRef, d.Path, ref, api.Value{Kind: 9}}.want(t, docs(), want, event(api.EvCutRef, d.Path))
		}
	}
	for _, x := range [][2]string{{"", "a#1"}, {"a#1", ""}, {"a#3", "a#10"}, {"a#1", "a#3"}, {"a#1", "b"}, {"none", "none"}} {
		deed{api.EvCutRef, x[0], x[1], none}.fails(t, docs(), api.ErrNone)
	}
	for _, x := range [][2]string{{"a#1", "a#1"}, {"a#10", "a#1"}, {"b#1", "b#1"}, {"a#1", "g#1"}, {"b#1", "a#1"}} {
		deed{api.EvCutRef, x[0], x[1], none}.fails(t, docs(), api.ErrState)
	}
}

func TestP16_1Events(t *testing.T) {
	for _, event := range []int{math.MinInt, -1, 0, 2, 3, 10, 17, 18, 19, 20, 28, 100, 1<<32 + 1, math.MaxInt} {
		for _, path := range []string{"", "a#1"} {
			for _, name := range []string{"", "a", "c", "c#1"} {
				deed{event, path, name, none}.fails(t, docs(), api.ErrArg)
			}
		}
	}
	// A list that is not valid comes first.
	for event := range 30 {
		for _, x := range []deed{{event, "", "a", none}, {event, "a#1", "", none}, {event, "a#1", "c", none}, {event, "a#1", "c#1", none}, {event, "a#1", "a#1", none}, {event, "none", "none", api.Value{Kind: 9}}} {
			x.fails(t, plus(doc("b#2", none)), api.ErrArg)
			if _, _, err := Do(append(files(), api.FileItem{}), docs(), x.event, x.path, x.name, x.v); err != api.ErrArg {
				t.Errorf("%v: error %d", x, err)
			}
		}
	}
}

func TestP16_1Example(t *testing.T) {
	l, events, err := Do([]api.FileItem{{Name: "a"}}, nil, api.EvCreate, "", "a", none)
	if err != api.OK || len(l) != 1 || l[0].Path != "a#1" || !reflect.DeepEqual(events, []api.Event{{Path: "a#1", File: true, Event: api.EvCreate}}) {
		t.Error(l, events, err)
	}
}

func TestP16_1Memory(t *testing.T) {
	for _, x := range []deed{{api.EvCreate, "", "a", none}, {api.EvAddChild, "a#1", "c", none}, {api.EvUpdate, "a#1", "", none}, {api.EvReplace, "a#1", "", none}, {api.EvReplace, "a#10", "", none}, {api.EvDelete, "a#1", "", none}, {api.EvDelete, "g#4", "", none},
		{api.EvCutChild, "a#1", "d#1", none}, {api.EvAddRef, "a#10", "b#1", none}, {api.EvAddRef, "g#4", "g#4", none}, {api.EvCutRef, "a#1", "b#1", none}, {api.EvCutRef, "g#1", "g#4", none}} {
		wantOwn(t, func(l []api.Doc) []api.Doc {
			got, events, err := x.do(l)
			if err != api.OK {
				t.Errorf("%v: error %d", x, err)
			}
			clear(events[:cap(events)])
			return got
		})
	}
	l := files()
	l[0].Kids = append(l[0].Kids, api.FileItem{Name: "spare"})[:2]
	if _, _, err := Do(l, docs(), api.EvDelete, "a#1", "", none); err != api.OK || !reflect.DeepEqual(l, files()) || l[0].Kids[:3][2].Name != "spare" {
		t.Error("definitions were modified")
	}
}
