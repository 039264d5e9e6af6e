package bind

import (
	"math/rand"
	"reflect"
	"slices"
	"strconv"
	"strings"
	"testing"

	"dossier/api"
	"dossier/chars"
	"dossier/model"
	"dossier/show"
	"dossier/xmltree"
)

// A sketch reads a definitions element to its end, whatever is wrong with it, and lists all errors in their order.
type sketch struct {
	root   api.Element
	files  map[string]string // paths by ID
	errors []api.Errno
}

func sketched(e api.Element) (api.Model, api.Errno) {
	s := &sketch{root: e, files: map[string]string{}}
	s.is(e.Space == space && e.Name == "definitions", api.ErrModel)
	c := s.one(e, "case")
	p := s.one(c, "casePlanModel")
	m := api.Model{ID: get(c, "id"), Name: get(c, "name")}
	for _, role := range xmltree.Sub(s.most(c, "caseRoles"), space, "role") {
		m.Roles = append(m.Roles, get(role, "id"))
	}
	m.Files = s.fileList(s.most(c, "caseFileModel"), "")
	m.Plan = api.Item{ID: get(p, "id"), Name: get(p, "name"), Auto: s.truth(p, "autoComplete") == "true", Exit: s.sentries(p, p, "exitCriterion")}
	s.contents(&m.Plan, p, 1)
	s.errors = append(s.errors, model.Check(m))
	if s.errors[0] != api.OK {
		return api.Model{}, s.errors[0]
	}
	return m, api.OK
}

func (s *sketch) is(holds bool, err api.Errno) {
	if !holds {
		s.errors = append(s.errors, err)
	}
}

// one is the part of a name, of which there must be one.
func (s *sketch) one(e api.Element, name string) api.Element {
	l := xmltree.Sub(e, space, name)
	s.is(len(l) == 1, api.ErrModel)
	return append(l, api.Element{})[0]
}

// most is the part of a name, of which there may be one at most.
func (s *sketch) most(e api.Element, name string) api.Element {
	l := xmltree.Sub(e, space, name)
	s.is(len(l) <= 1, api.ErrModel)
	return append(l, api.Element{})[0]
}

func (s *sketch) truth(e api.Element, name string) string {
	value := get(e, name)
	s.is(slices.Contains([]string{"true", "false", ""}, value), api.ErrModel)
	return value
}

func (s *sketch) fileList(e api.Element, up string) []api.FileItem {
	var l []api.FileItem
	multi := map[string]int{"": 2, "Unspecified": 2, "ExactlyOne": 0, "ZeroOrOne": 1, "ZeroOrMore": 2, "OneOrMore": 3}
	kind := map[string]int{"": 0, "none": 0, "int": 1, "bool": 2, "string": 3}
	for _, x := range xmltree.Sub(e, space, "caseFileItem") {
		f := api.FileItem{Name: get(x, "name"), Refs: strings.Fields(get(x, "targetRefs"))}
		var is bool
		f.Multi, is = multi[get(x, "multiplicity")]
		s.is(is, api.ErrModel)
		d, found := firstOf(xmltree.Sub(s.root, space, "caseFileItemDefinition"), get(x, "definitionRef"))
		s.is(found, api.ErrNone)
		f.Kind, is = kind[get(d, "definitionType")]
		s.is(is, api.ErrModel)
		if _, is := s.files[get(x, "id")]; !is {
			s.files[get(x, "id")] = up + f.Name
		}
		f.Kids = s.fileList(s.most(x, "children"), up+f.Name+".")
		l = append(l, f)
	}
	return l
}

// firstOf is the first element with an ID.
func firstOf(l []api.Element, id string) (api.Element, bool) {
	for _, e := range l {
		if get(e, "id") == id {
			return e, true
		}
	}
	return api.Element{}, false
}

func (s *sketch) contents(i *api.Item, e api.Element, depth int) {
	for _, x := range xmltree.Sub(e, space, "planItem") {
		i.Kids = append(i.Kids, s.item(e, x, depth+1)...)
	}
	for _, x := range xmltree.Sub(s.most(e, "planningTable"), space, "discretionaryItem") {
		i.Table = append(i.Table, s.item(e, x, depth+1)...)
	}
}

// item is an item, none if that cannot be told.
func (s *sketch) item(stage, use api.Element, depth int) []api.Item {
	var l []api.Element
	for _, kid := range stage.Kids {
		if _, is := kinds()[kid.Name]; is && kid.Space == space {
			l = append(l, kid)
		}
	}
	d, found := firstOf(l, get(use, "definitionRef"))
	s.is(found, api.ErrNone)
	s.is(depth <= 24, api.ErrFull)
	if !found || depth > 24 {
		return nil
	}
	i := api.Item{ID: get(use, "id"), Name: get(d, "name"), Kind: kinds()[d.Name], Roles: strings.Fields(get(d, "roleRefs")), Free: s.truth(d, "isBlocking") == "false"}
	timers := xmltree.Sub(d, space, "timerExpression")
	s.is((len(timers) == 1) == (i.Kind == api.ItemTimer) && len(timers) < 2, api.ErrModel)
	if len(timers) == 1 {
		n, err := chars.Number(timers[0].Text)
		s.is(err == api.OK, err)
		i.After = n
	}
	control := s.most(use, "itemControl")
	for _, rule := range []struct {
		name string
		into *string
	}{{"repetitionRule", &i.Repeat}, {"requiredRule", &i.Required}, {"manualActivationRule", &i.Manual}} {
		if x := s.most(control, rule.name); x.Name != "" {
			*rule.into = s.condition(x, "true")
		}
	}
	i.Entry, i.Exit = s.sentries(stage, use, "entryCriterion"), s.sentries(stage, use, "exitCriterion")
	if i.Kind == api.ItemStage {
		i.Auto = s.truth(d, "autoComplete") == "true"
		s.contents(&i, d, depth)
	}
	return []api.Item{i}
}

// condition is that of an element, or what it is without one.
func (s *sketch) condition(e api.Element, without string) string {
	c := s.most(e, "condition")
	if c.Name == "" {
		return without
	}
	s.is(slices.Contains([]string{"", "http://dossier/expression"}, get(c, "language")), api.ErrTongue)
	return s.one(c, "body").Text
}

func (s *sketch) sentries(stage, e api.Element, name string) []api.Sentry {
	var l []api.Sentry
	for _, x := range xmltree.Sub(e, space, name) {
		e, found := firstOf(xmltree.Sub(stage, space, "sentry"), get(x, "sentryRef"))
		s.is(found, api.ErrNone)
		var y api.Sentry
		for _, kid := range e.Kids {
			if kid.Space == space && strings.HasSuffix(kid.Name, "ItemOnPart") {
				y.On = append(y.On, s.on(kid))
			}
		}
		y.If = s.condition(s.most(e, "ifPart"), "")
		l = append(l, y)
	}
	return l
}

func (s *sketch) on(e api.Element) api.OnPart {
	var o api.OnPart
	if e.Name == "planItemOnPart" {
		o.Item = get(e, "sourceRef")
	} else {
		path, is := s.files[get(e, "sourceRef")]
		s.is(is, api.ErrNone)
		o.File = path
	}
	l := xmltree.Sub(e, space, "standardEvent")
	event, is := model.EventOf(append(l, api.Element{})[0].Text)
	s.is(len(l) == 1 && is, api.ErrModel)
	o.Event = event
	return o
}

func pick[T any](r *rand.Rand, l ...T) T { return l[r.Intn(len(l))] }

// A maker makes valid models.
type maker struct {
	*rand.Rand
	next  int // the number of the next item
	paths []string
}

func (k *maker) model() api.Model {
	m := api.Model{ID: pick(k.Rand, "m", "M_1", "i0"), Name: k.title(), Roles: []string{"a", "b", "c"}[:k.Intn(4)], Files: k.files("", 3)}
	m.Plan = api.Item{ID: "i0", Name: k.title(), Auto: k.Intn(2) == 0, Exit: make([]api.Sentry, k.Intn(3))}
	k.next = 1
	k.below(&m.Plan, m.Roles, 3)
	k.link(&m.Plan)
	return m
}

func (k *maker) title() string {
	return pick(k.Rand, "", "A name", "<&>\"'", " \t\r\n ", "\u00e9\u20ac\U0001f600", "]]>", "&lt;")
}

func (k *maker) files(up string, levels int) []api.FileItem {
	var l []api.FileItem
	for n := range k.Intn(3) {
		f := api.FileItem{Name: pick(k.Rand, "a", "b") + strconv.Itoa(n), Kind: k.Intn(4), Multi: k.Intn(4)}
		path := up + f.Name
		k.paths = append(k.paths, path)
		for _, ref := range []string{path, k.paths[0]} {
			if k.Intn(3) == 0 && (len(f.Refs) == 0 || f.Refs[0] != ref) {
				f.Refs = append(f.Refs, ref)
			}
		}
		if levels > 1 {
			f.Kids = k.files(path+".", levels-1)
		}
		l = append(l, f)
	}
	return l
}

// below gives a stage items, with so many levels of them.
func (k *maker) below(stage *api.Item, roles []string, levels int) {
	for range k.Intn(6) {
		i := k.item(roles)
		if i.Kind == api.ItemStage && levels > 1 {
			k.below(&i, roles, levels-1)
		}
		list := pick(k.Rand, &stage.Kids, &stage.Kids, &stage.Table)
		*list = append(*list, i)
	}
}

func (k *maker) item(roles []string) api.Item {
	i := api.Item{ID: "i" + strconv.Itoa(k.next), Name: k.title(), Kind: pick(k.Rand, 0, k.Intn(8), k.Intn(8))}
	k.next++
	work := i.Kind <= api.ItemDecision
	if work || i.Kind == api.ItemMilestone {
		i.Entry, i.Required, i.Repeat = make([]api.Sentry, k.Intn(3)), k.rule(), k.rule()
	}
	if work {
		i.Exit, i.Manual = make([]api.Sentry, k.Intn(3)), k.rule()
	}
	if work || i.Kind == api.ItemListener {
		i.Roles = roles[k.Intn(len(roles)+1):]
	}
	i.Auto = i.Kind == api.ItemStage && k.Intn(2) == 0
	i.Free = work && i.Kind != api.ItemStage && k.Intn(2) == 0
	if i.Kind == api.ItemTimer {
		i.After = pick(k.Rand, 1, 10, 1<<31)
	}
	return i
}

func (k *maker) rule() string { return pick(k.Rand, "", "true", k.condition()) }

func (k *maker) condition() string {
	return pick(k.Rand, "true", " \t\r\ntrue ", "1 < 2 and 3 > 2", "number(i0, active) = 1", "\"<&>]]>\\\"'\" != \"\u00e9\"")
}

// link fills the sentries, once all items are there.
func (k *maker) link(i *api.Item) {
	for _, l := range [][]api.Sentry{i.Entry, i.Exit} {
		for n := range l {
			for range k.Intn(3) {
				l[n].On = append(l[n].On, k.on(i.ID)...)
			}
			if len(l[n].On) == 0 || k.Intn(2) == 0 {
				l[n].If = k.condition()
			}
		}
	}
	for _, l := range [][]api.Item{i.Kids, i.Table} {
		for n := range l {
			k.link(&l[n])
		}
	}
}

// on is an on-part, or none.
func (k *maker) on(own string) []api.OnPart {
	if len(k.paths) > 0 && k.Intn(2) == 0 {
		return []api.OnPart{onFiles(pick(k.Rand, k.paths...), pick(k.Rand, 1, 21, 22, 23, 24, 25, 26, 27))}
	}
	item := "i" + strconv.Itoa(k.Intn(k.next))
	if item == own {
		return nil
	}
	return []api.OnPart{on(item, pick(k.Rand, 1, 10, 11, 12, 14, 15, 16))}
}

// This is P14.3 as well.
func TestP15_5Printed(t *testing.T) {
	r := rand.New(rand.NewSource(15))
	items := 0
	for range 1000 {
		k := &maker{Rand: r}
		m := k.model()
		b, err := show.Print(m)
		if err != api.OK {
			if err != api.ErrFull || model.Check(m) != api.OK {
				t.Fatalf("%.3000v: error %d", m, err)
			}
			continue
		}
		if back, at, err := Read(b); err != api.OK || at != 0 || !same(back, m) {
			t.Fatalf("%s\nis read as %.3000v, error %d at %d", b, back, err, at)
		}
		items += k.next
	}
	if items < 8000 {
		t.Error("one-sided:", items)
	}
}

// elements lists an element, and all that are in it.
func elements(e *api.Element) []*api.Element {
	l := []*api.Element{e}
	for k := range e.Kids {
		l = append(l, elements(&e.Kids[k])...)
	}
	return l
}

// alter changes something in a document.
func alter(r *rand.Rand, e *api.Element) {
	l := elements(e)
	x, y := pick(r, l...), pick(r, l...)
	if len(x.Kids) == 0 || r.Intn(8) == 0 {
		alterOne(r, x, y)
		return
	}
	k := r.Intn(len(x.Kids))
	switch r.Intn(5) {
	case 0:
		x.Kids = append(x.Kids[:k:k], x.Kids[k+1:]...)
	case 1:
		x.Kids = append(x.Kids[:k:k], append([]api.Element{pick(r, x.Kids...)}, x.Kids[k:]...)...)
	case 2:
		kids := append([]api.Element(nil), x.Kids...)
		r.Shuffle(len(kids), func(a, b int) { kids[a], kids[b] = kids[b], kids[a] })
		x.Kids = kids
	case 3:
		x.Kids = append(append([]api.Element(nil), x.Kids...), deepCopy(*y))
	default:
		alterOne(r, &x.Kids[k], y)
	}
}

// alterOne changes an element apart from its kids, after the example of another one.
func alterOne(r *rand.Rand, x, y *api.Element) {
	switch r.Intn(7) {
	case 0:
		x.Text = pick(r, "", "x", "7", "true", "exit", "update", y.Text)
	case 1:
		x.Name = y.Name
	case 2:
		x.Space = pick(r, "", "urn:x", space)
	default:
		if len(x.Attrs) == 0 {
			return
		}
		attrs := append([]api.Pair(nil), x.Attrs...)
		a := &attrs[r.Intn(len(attrs))]
		values := []string{"", "x", "true", "false", "Unspecified", "OneOrMore", "int", " a \r\n\t a0 "}
		for _, b := range y.Attrs {
			values = append(values, b.Value)
		}
		switch r.Intn(4) {
		case 0:
			a.Name = pick(r, "id", "name", "isBlocking", "autoComplete", "roleRefs", "targetRefs", "language", "x")
		case 1:
			a.Space = pick(r, "urn:y", "")
		default:
			a.Value = pick(r, values...)
		}
		x.Attrs = attrs
	}
}

func deepCopy(e api.Element) api.Element {
	e.Kids = append([]api.Element(nil), e.Kids...)
	for k, kid := range e.Kids {
		e.Kids[k] = deepCopy(kid)
	}
	return e
}

// Documents that somebody altered are read as the sketch reads them, and what is accepted survives printing.
func TestP15_5Altered(t *testing.T) {
	r := rand.New(rand.NewSource(1516))
	many := map[api.Errno]int{}
	for range 1500 {
		e, err := show.Element((&maker{Rand: r}).model())
		if err != api.OK {
			continue
		}
		for range 8 {
			alter(r, &e)
			m, err := Model(e)
			want, wantErr := sketched(e)
			if err != wantErr || !same(m, want) {
				t.Fatalf("%.5000v\nis read as %.3000v, error %d,\nwant %.3000v, error %d", e, m, err, want, wantErr)
			}
			many[err]++
			if err == api.OK {
				again(t, e, m)
			}
			if err != api.OK && r.Intn(3) > 0 {
				break
			}
		}
	}
	if many[api.OK] < 1000 || many[api.ErrModel] < 300 || many[api.ErrNone] < 300 || many[api.ErrTwice] < 30 || many[api.ErrName] < 100 {
		t.Error("one-sided:", many)
	}

}

// again holds a model that was read from an element to be the same when it is printed, if it can be, and read again.
func again(t *testing.T, e api.Element, m api.Model) {
	t.Helper()
	if b, err := xmltree.Write(e); err == api.OK {
		if read, at, err := Read(b); err != api.OK || at != 0 || !same(read, m) {
			t.Fatalf("%s\nis read as %.3000v, error %d at %d", b, read, err, at)
		}
	}
	b, err := show.Print(m)
	if err == api.ErrFull {
		return
	}
	if read, at, wrong := Read(b); err != api.OK || wrong != api.OK || at != 0 || !same(read, m) {
		t.Fatalf("%s\n(error %d) is read as %.3000v, error %d at %d", b, err, read, wrong, at)
	}
}

// A model can have more items than its document has definitions, and so be too large to be printed.
func TestP15_5Unprintable(t *testing.T) {
	text := planned(numbered(99, `<planItem id="t@" definitionRef="d"/>`) + `<humanTask id="d"/>`)
	m, at, err := Read([]byte(text))
	if err != api.OK || at != 0 || len(m.Plan.Kids) != 99 || model.Check(m) != api.OK {
		t.Errorf("error %d at %d", err, at)
	}
	if _, err := show.Print(m); err != api.ErrFull {
		t.Error("printed with error", err)
	}
}

// Whatever the bytes are, there is an error with an offset, or a valid model.
func TestP15_5Bytes(t *testing.T) {
	r := rand.New(rand.NewSource(1517))
	accepted := 0
	for range 400 {
		b, err := show.Print((&maker{Rand: r}).model())
		if err != api.OK {
			continue
		}
		for range 20 {
			c := append([]byte(nil), b...)
			for range 1 + r.Intn(2) {
				c[r.Intn(len(c))] = pick(r, 'a', ' ', '"', '<', '>', '/', '&', '0', c[r.Intn(len(c))])
			}
			m, at, err := Read(c)
			e, parsedAt, wrong := xmltree.Parse(c)
			switch {
			case wrong != api.OK:
				if err != wrong || at != parsedAt || !reflect.DeepEqual(m, api.Model{}) {
					t.Fatalf("%s\nis read with error %d at %d, want error %d at %d", c, err, at, wrong, parsedAt)
				}
			case err == api.OK:
				accepted++
				if model.Check(m) != api.OK || at != 0 {
					t.Fatalf("%s\nis read as %.3000v", c, m)
				}
				again(t, e, m)
			case at != 0 || !reflect.DeepEqual(m, api.Model{}):
				t.Fatalf("%s\nis read with error %d at %d and %.3000v", c, err, at, m)
			}
		}
	}
	if accepted < 200 {
		t.Error("one-sided:", accepted)
	}
}
