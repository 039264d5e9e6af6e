package casefile

import (
	"fmt"
	"maps"
	"math/rand"
	"regexp"
	"slices"
	"strconv"
	"strings"
	"testing"

	"dossier/api"
	"dossier/shape"
	"dossier/value"
)

// A sketch holds instances by their paths, and definitions by theirs.
type sketch struct {
	files map[string]api.FileItem
	docs  map[string]api.Doc
}

func sketchOf(files []api.FileItem, l []api.Doc) sketch {
	s := sketch{map[string]api.FileItem{}, map[string]api.Doc{}}
	for _, path := range shape.Paths(files) {
		s.files[path], _ = shape.Find(files, path)
	}
	for _, d := range l {
		s.docs[d.Path] = d
	}
	return s
}

var part = regexp.MustCompile(`#[1-9][0-9]*(\.|$)`)

// base is a path without its numbers; of what is no instance path it is no path of a definition.
func base(path string) string {
	return strings.TrimSuffix(part.ReplaceAllString(path+".", "."), ".")
}

// key is a text by which instance paths are sorted.
func key(path string) string {
	var s strings.Builder
	for _, p := range strings.Split(path, ".") {
		name, number, _ := strings.Cut(p, "#")
		fmt.Fprintf(&s, "%s\x00%20s\x00", name, number)
	}
	return s.String()
}

// parent is the path of the parent, and slot tells apart what counts for a multiplicity.
func parent(path string) string {
	return strings.TrimSuffix(path[:strings.LastIndex(path, ".")+1], ".")
}

func slot(path string) string { return path[:strings.LastIndex(path, "#")] }

// list is what there is, in order.
func (s sketch) list() []api.Doc {
	return slices.SortedFunc(maps.Values(s.docs), func(a, b api.Doc) int { return strings.Compare(key(a.Path), key(b.Path)) })
}

// beside are the instances of a slot.
func (s sketch) beside(of string) []string {
	var l []string
	for path := range s.docs {
		if slot(path) == of {
			l = append(l, path)
		}
	}
	return l
}

func (s sketch) fits(v api.Value, f api.FileItem) bool {
	return value.Can(v) && (v.Kind == 0 || v.Kind == f.Kind)
}

// valid reports whether a list is a valid one.
func (s sketch) valid(l []api.Doc) bool {
	for _, d := range l {
		f, is := s.files[base(d.Path)]
		_, up := s.docs[parent(d.Path)]
		if !is || !s.fits(d.Value, f) || !up && parent(d.Path) != "" || f.Multi < 2 && len(s.beside(slot(d.Path))) > 1 || len(d.Refs) > 8 {
			return false
		}
		distinct := map[string]bool{}
		for _, ref := range d.Refs {
			distinct[ref] = true
			if _, is := s.docs[ref]; !is || !slices.Contains(f.Refs, base(ref)) {
				return false
			}
		}
		if len(distinct) < len(d.Refs) {
			return false
		}
	}
	return len(l) <= 100 && len(s.docs) == len(l) && same(s.list(), l)
}

// do changes the sketch, and returns the events and the error, as the chapter has them.
func (s sketch) do(event int, path, name string, v api.Value) ([]string, api.Errno) {
	here, is := s.docs[path]
	f := s.files[base(path)]
	if slices.Contains([]int{21, 22, 23}, event) && name != "" || event == 1 && path != "" || event != 1 && (event < 21 || event > 27) {
		return nil, 1
	}
	if event != 1 && !is {
		return nil, 33
	}
	switch event {
	case 1, 24:
		return s.create(path, name, v)
	case 21, 22:
		if !s.fits(v, f) {
			return nil, 22
		}
		here.Value = v
		s.docs[path] = here
		if event == 22 {
			return []string{"22 " + path}, 0
		}
		return append(s.drop(path+"."), "21 "+path), 0
	case 23, 25:
		return s.cut(event, path, name)
	}
	if _, is := s.docs[name]; !is {
		return nil, 33
	}
	at := slices.Index(here.Refs, name)
	switch {
	case event == 27 && at < 0:
		return nil, 40
	case event == 27:
		here.Refs = slices.Delete(slices.Clone(here.Refs), at, at+1)
	case !slices.Contains(f.Refs, base(name)):
		return nil, 22
	case at >= 0:
		return nil, 15
	case len(here.Refs) == 8:
		return nil, 4
	default:
		here.Refs = append(slices.Clone(here.Refs), name)
	}
	s.docs[path] = here
	return []string{strconv.Itoa(event) + " " + path}, 0
}

func (s sketch) create(up, name string, v api.Value) ([]string, api.Errno) {
	prefix, dotted := "", ""
	var events []string
	if up != "" {
		prefix, dotted, events = base(up)+".", up+".", []string{"24 " + up}
	}
	f, is := s.files[prefix+name]
	there := s.beside(dotted + name)
	number := 1
	for _, path := range there {
		n, _ := strconv.Atoi(path[len(dotted+name)+1:])
		number = max(number, n+1)
	}
	path := dotted + name + "#" + strconv.Itoa(number)
	switch {
	case !is || strings.Contains(name, "."):
		return nil, 33
	case !s.fits(v, f):
		return nil, 22
	case f.Multi < 2 && len(there) > 0:
		return nil, 43
	case len(s.docs) >= 100:
		return nil, 4
	}
	s.docs[path] = api.Doc{Path: path, Value: v}
	return append(events, "1 "+path), 0
}

func (s sketch) cut(event int, path, name string) ([]string, api.Errno) {
	kid := path
	var after []string
	if event == 25 {
		kid, after = path+"."+name, []string{"25 " + path}
	}
	if _, is := s.docs[kid]; !is || strings.Contains(name, ".") {
		return nil, 33
	}
	if multi := s.files[base(kid)].Multi; multi%3 == 0 && len(s.beside(slot(kid))) == 1 {
		return nil, 43
	}
	delete(s.docs, kid)
	return append(append([]string{"23 " + kid}, s.drop(kid+".")...), after...), 0
}

// drop deletes what has a prefix, and the references to what is not there.
func (s sketch) drop(prefix string) []string {
	var events []string
	for _, d := range s.list() {
		if strings.HasPrefix(d.Path, prefix) {
			delete(s.docs, d.Path)
			events = append(events, "23 "+d.Path)
		}
	}
	for path, d := range s.docs {
		d.Refs = slices.DeleteFunc(slices.Clone(d.Refs), func(ref string) bool {
			_, is := s.docs[ref]
			return !is
		})
		s.docs[path] = d
	}
	return events
}

func pick[T any](r *rand.Rand, l ...T) T { return l[r.Intn(len(l))] }

// definitions makes valid ones.
func definitions(r *rand.Rand) []api.FileItem {
	var paths []string
	var list func(up string, levels int) []api.FileItem
	list = func(up string, levels int) []api.FileItem {
		var l []api.FileItem
		for n := range 1 + r.Intn(3) {
			f := api.FileItem{Name: string(rune('a' + n)), Kind: r.Intn(4), Multi: pick(r, 0, 1, 2, 2, 3)}
			paths = append(paths, up+f.Name)
			if levels > 1 {
				f.Kids = list(up+f.Name+".", levels-1)
			}
			l = append(l, f)
		}
		return l
	}
	l := list("", 1+r.Intn(3))
	var refer func(l []api.FileItem)
	refer = func(l []api.FileItem) {
		for k := range l {
			for _, path := range paths {
				if len(l[k].Refs) < 8 && r.Intn(3) == 0 {
					l[k].Refs = append(l[k].Refs, path)
				}
			}
			refer(l[k].Kids)
		}
	}
	refer(l)
	return l
}

func told(events []api.Event) []string {
	var l []string
	for _, e := range events {
		if !e.File {
			return []string{"of no case file item"}
		}
		l = append(l, strconv.Itoa(e.Event)+" "+e.Path)
	}
	return l
}

// guess is a text that may be the path of an instance, its last part, or a name.
func guess(r *rand.Rand, l []api.Doc) string {
	if len(l) == 0 || r.Intn(3) == 0 {
		return pick(r, "", "a", "b", "c", "d", "a#1", "b#1", "a#2", "a.b", "a#1.b#1", "x")
	}
	path := pick(r, l...).Path
	return pick(r, path, path, path, path[strings.LastIndex(path, ".")+1:], slot(path), parent(path))
}

func someValue(r *rand.Rand) api.Value {
	return pick(r, none, none, value.Int(r.Intn(9)), value.Bool(true), value.Text("x"), api.Value{Kind: 3, Int: 1})
}

// someDeed is one that often can be done.
func someDeed(r *rand.Rand, l []api.Doc) deed {
	x := deed{pick(r, 1, 1, 1, 21, 22, 23, 24, 24, 24, 25, 26, 26, 27, r.Intn(30)), "", "", someValue(r)}
	if x.event != api.EvCreate || r.Intn(20) == 0 {
		x.path = guess(r, l)
	}
	if x.event < 21 || x.event > 23 || r.Intn(20) == 0 {
		x.name = guess(r, l)
	}
	switch {
	case x.event == api.EvCreate || x.event == api.EvAddChild:
		x.name = pick(r, "a", "b", "c", "a", "b", "c", x.name)
		x.v = pick(r, none, none, x.v)
	case (x.event == api.EvCutRef || x.event == api.EvAddRef && r.Intn(4) == 0) && len(l) > 0:
		if d := pick(r, l...); len(d.Refs) > 0 {
			x.path, x.name = d.Path, pick(r, d.Refs...)
		}
	case x.event == api.EvCutChild && len(l) > 0 && r.Intn(3) > 0:
		path := pick(r, l...).Path
		x.path, x.name = parent(path), path[strings.LastIndex(path, ".")+1:]
	}
	return x
}

func TestP16_3Walks(t *testing.T) {
	r := rand.New(rand.NewSource(16))
	many, most := map[api.Errno]int{}, 0
	for range 60 {
		files := definitions(r)
		var l []api.Doc
		for range 400 {
			x := someDeed(r, l)
			got, events, err := Do(files, l, x.event, x.path, x.name, x.v)
			s := sketchOf(files, l)
			want, wrong := s.do(x.event, x.path, x.name, x.v)
			many[err]++
			if err != wrong {
				t.Fatalf("%v: error %d, want error %d; %v, %v", x, err, wrong, files, l)
			}
			if err != api.OK {
				if len(got) > 0 || len(events) > 0 {
					t.Fatalf("%v: error %d with %v, %v", x, err, got, events)
				}
				continue
			}
			if !same(got, s.list()) || !slices.Equal(told(events), want) {
				t.Fatalf("%v:\n%v, %v,\nwant\n%v, %v;\n%v, %v", x, got, events, s.list(), want, files, l)
			}
			if !Can(files, got) || !sketchOf(files, got).valid(got) {
				t.Fatalf("%v makes %v of %v, which is not valid for %v", x, got, l, files)
			}
			wantBack(t, files, l, got, events)
			l = got
			most = max(most, len(l))
		}
	}
	for _, err := range []api.Errno{api.OK, api.ErrArg, api.ErrKind, api.ErrNone, api.ErrMulti, api.ErrTwice, api.ErrState} {
		if many[err] < 50 {
			t.Error("one-sided:", many)
		}
	}
	if most < 40 {
		t.Error("one-sided: at most", most)
	}
}

// wantBack holds what was created to be deleted again, P16.4, unless one must stay.
func wantBack(t *testing.T, files []api.FileItem, l, longer []api.Doc, events []api.Event) {
	t.Helper()
	created := events[len(events)-1]
	if created.Event != api.EvCreate {
		return
	}
	back, occurred, err := Do(files, longer, api.EvDelete, created.Path, "", none)
	f, _ := definition(files, created.Path)
	if err == api.ErrMulti && (f.Multi == api.MultiOne || f.Multi == api.MultiSome && len(Kids(l, parent(created.Path), f.Name)) == 0) {
		return
	}
	if err != api.OK || !same(back, l) || len(occurred) != 1 {
		t.Fatalf("%q created and deleted: error %d, %v, want %v", created.Path, err, back, l)
	}
}

func TestP16_4Back(t *testing.T) {
	for _, x := range []deed{{api.EvCreate, "", "a", value.Int(1)}, {api.EvCreate, "", "f", none}, {api.EvCreate, "", "g", none}, {api.EvAddChild, "a#1", "c", none}, {api.EvAddChild, "a#10", "d", none}, {api.EvAddChild, "a#1.d#1", "c", none}} {
		longer, events, err := x.do(docs())
		if err != api.OK {
			t.Fatalf("%v: error %d", x, err)
		}
		path := events[len(events)-1].Path
		deed{api.EvDelete, path, "", none}.want(t, longer, docs(), gone(path)...)
		if up := parent(path); up != "" {
			deed{api.EvCutChild, up, path[len(up)+1:], none}.want(t, longer, docs(), append(gone(path), event(api.EvCutChild, up))...)
		}
	}
}

// Lists that somebody altered are valid as the sketch has it.
func TestP16_2Altered(t *testing.T) {
	r := rand.New(rand.NewSource(162))
	many := map[bool]int{}
	for range 300 {
		files := definitions(r)
		var l []api.Doc
		for range 60 {
			x := someDeed(r, l)
			if got, _, err := Do(files, l, x.event, x.path, x.name, x.v); err == api.OK {
				l = got
			}
		}
		for range 20 {
			altered := alter(r, l)
			is := Can(files, altered)
			if want := sketchOf(files, altered).valid(altered); is != want {
				t.Fatalf("Can(%v, %v) = %t, want %t", files, altered, is, want)
			}
			many[is]++
		}
	}
	if many[true] < 1000 || many[false] < 1000 {
		t.Error("one-sided:", many)
	}
}

// alter changes something in a list.
func alter(r *rand.Rand, l []api.Doc) []api.Doc {
	l = copied(l)
	if len(l) == 0 {
		return l
	}
	k, n := r.Intn(len(l)), r.Intn(len(l))
	d := &l[k]
	switch r.Intn(8) {
	case 0:
		return slices.Delete(l, k, k+1)
	case 1:
		return slices.Insert(l, k, l[n])
	case 2:
		l[k], l[n] = l[n], l[k]
	case 3:
		d.Path = pick(r, strings.Replace(d.Path, "#1", "#2", 1), strings.Replace(d.Path, "#2", "#12", 1), d.Path+"0", slot(d.Path)+"#4", "c#1")
	case 4:
		d.Refs = append(d.Refs, l[n].Path)
	case 5:
		d.Refs = append(d.Refs, guess(r, l))
	default:
		d.Value = someValue(r)
	}
	return l
}
