package show

import (
	"math/rand"
	"reflect"
	"strconv"
	"strings"
	"testing"

	"dossier/api"
	"dossier/model"
	"dossier/xmltree"
)

// A reader reads documents back. It goes by names and references, not by where in an element a part stands.
type reader struct {
	defined map[string]api.Element // elements by their ID
	paths   map[string]string      // of the case file, by ID
}

func get(e api.Element, name string) string {
	s, _ := xmltree.Get(e, name)
	return s
}

func parts(e api.Element, name string) []api.Element {
	return xmltree.Sub(e, "http://www.omg.org/spec/CMMN/20151109/MODEL", name)
}

// inside goes from part to part, always the first one of a name.
func inside(e api.Element, names ...string) api.Element {
	for _, name := range names {
		l := parts(e, name)
		if len(l) == 0 {
			return api.Element{}
		}
		e = l[0]
	}
	return e
}

func (r *reader) note(e api.Element) {
	if id, is := xmltree.Get(e, "id"); is && e.Name != "planItem" && e.Name != "discretionaryItem" && e.Name != "case" && e.Name != "casePlanModel" && e.Name != "role" {
		r.defined[id] = e
	}
	for _, kid := range e.Kids {
		r.note(kid)
	}
}

func (r *reader) model(e api.Element) api.Model {
	r.note(e)
	c := inside(e, "case")
	m := api.Model{ID: get(c, "id"), Name: get(c, "name"), Files: r.files("", inside(c, "caseFileModel"))}
	for _, role := range parts(inside(c, "caseRoles"), "role") {
		m.Roles = append(m.Roles, get(role, "id"))
	}
	p := inside(c, "casePlanModel")
	m.Plan = api.Item{ID: get(p, "id"), Name: get(p, "name"), Exit: r.sentries(p, "exitCriterion")}
	r.fill(&m.Plan, p)
	return m
}

func (r *reader) files(up string, e api.Element) []api.FileItem {
	var l []api.FileItem
	for _, x := range parts(e, "caseFileItem") {
		f := api.FileItem{Name: get(x, "name"), Refs: strings.Fields(get(x, "targetRefs"))}
		f.Kind = map[string]int{"none": 0, "int": 1, "bool": 2, "string": 3}[get(r.defined[get(x, "definitionRef")], "definitionType")]
		f.Multi = map[string]int{"ExactlyOne": 0, "ZeroOrOne": 1, "ZeroOrMore": 2, "OneOrMore": 3}[get(x, "multiplicity")]
		r.paths[get(x, "id")] = up + f.Name
		f.Kids = r.files(up+f.Name+".", inside(x, "children"))
		l = append(l, f)
	}
	return l
}

// fill reads what an item has from its definition.
func (r *reader) fill(i *api.Item, e api.Element) {
	i.Auto = get(e, "autoComplete") == "true"
	i.Free = get(e, "isBlocking") == "false"
	i.Roles = strings.Fields(get(e, "roleRefs"))
	i.After, _ = strconv.Atoi(inside(e, "timerExpression").Text)
	for _, x := range parts(e, "planItem") {
		i.Kids = append(i.Kids, r.item(x))
	}
	for _, x := range parts(inside(e, "planningTable"), "discretionaryItem") {
		i.Table = append(i.Table, r.item(x))
	}
}

func (r *reader) item(e api.Element) api.Item {
	d := r.defined[get(e, "definitionRef")]
	control := inside(e, "itemControl")
	i := api.Item{ID: get(e, "id"), Name: get(d, "name"), Entry: r.sentries(e, "entryCriterion"), Exit: r.sentries(e, "exitCriterion"),
		Manual:   inside(control, "manualActivationRule", "condition", "body").Text,
		Required: inside(control, "requiredRule", "condition", "body").Text,
		Repeat:   inside(control, "repetitionRule", "condition", "body").Text}
	for kind, name := range kinds() {
		if name == d.Name {
			i.Kind = kind
		}
	}
	r.fill(&i, d)
	return i
}

func (r *reader) sentries(e api.Element, name string) []api.Sentry {
	var l []api.Sentry
	for _, x := range parts(e, name) {
		e := r.defined[get(x, "sentryRef")]
		s := api.Sentry{If: inside(e, "ifPart", "condition", "body").Text}
		for _, kid := range e.Kids {
			event, _ := model.EventOf(inside(kid, "standardEvent").Text)
			switch kid.Name {
			case "planItemOnPart":
				s.On = append(s.On, on(get(kid, "sourceRef"), event))
			case "caseFileItemOnPart":
				s.On = append(s.On, onFile(r.paths[get(kid, "sourceRef")], event))
			}
		}
		l = append(l, s)
	}
	return l
}

func pick[T any](r *rand.Rand, l ...T) T { return l[r.Intn(len(l))] }

// A maker makes valid models.
type maker struct {
	*rand.Rand
	next  int // the number of the next item
	paths []string
}

func (k *maker) model() api.Model {
	m := api.Model{ID: pick(k.Rand, "m", "M_1", "p", "i0"), Name: k.title(), Roles: []string{"a", "b", "c"}[:k.Intn(4)], Files: k.files("", 3)}
	p := api.Item{ID: "i0", Name: k.title(), Auto: k.Intn(2) == 0}
	k.next = 1
	k.below(&p, m.Roles, 3)
	m.Plan = p
	k.link(&m.Plan)
	return m
}

func (k *maker) title() string {
	return pick(k.Rand, "", "A name", "<&>\"'", " \t\r\n ", "\u00e9\u20ac\U0001f600", "]]>", "&lt;")
}

func (k *maker) files(up string, levels int) []api.FileItem {
	var l []api.FileItem
	for n := range k.Intn(3) {
		f := api.FileItem{Name: pick(k.Rand, "a", "b") + strconv.Itoa(n), Kind: k.Intn(4), Multi: k.Intn(4)}
		path := up + f.Name
		k.paths = append(k.paths, path)
		for _, ref := range []string{path, k.paths[0], k.paths[k.Intn(len(k.paths))]} {
			if k.Intn(3) == 0 && !strings.Contains(" "+strings.Join(f.Refs, " ")+" ", " "+ref+" ") {
				f.Refs = append(f.Refs, ref)
			}
		}
		if levels > 1 {
			f.Kids = k.files(path+".", levels-1)
		}
		l = append(l, f)
	}
	return l
}

// below gives a stage items, with so many levels of them.
func (k *maker) below(stage *api.Item, roles []string, levels int) {
	for range k.Intn(7) {
		i := k.item(roles)
		if i.Kind == api.ItemStage && levels > 1 {
			k.below(&i, roles, levels-1)
		}
		list := pick(k.Rand, &stage.Kids, &stage.Kids, &stage.Table)
		*list = append(*list, i)
	}
}

func (k *maker) item(roles []string) api.Item {
	i := api.Item{ID: "i" + strconv.Itoa(k.next), Name: k.title(), Kind: pick(k.Rand, 0, k.Intn(8), k.Intn(8))}
	k.next++
	work := i.Kind <= api.ItemDecision
	if work || i.Kind == api.ItemMilestone {
		i.Entry, i.Required, i.Repeat = make([]api.Sentry, k.Intn(3)), k.rule(), k.rule()
	}
	if work {
		i.Exit, i.Manual = make([]api.Sentry, k.Intn(3)), k.rule()
	}
	if work || i.Kind == api.ItemListener {
		i.Roles = roles[k.Intn(len(roles)+1):]
	}
	i.Auto = i.Kind == api.ItemStage && k.Intn(2) == 0
	i.Free = work && i.Kind != api.ItemStage && k.Intn(2) == 0
	if i.Kind == api.ItemTimer {
		i.After = pick(k.Rand, 1, 10, 1<<31)
	}
	return i
}

func (k *maker) rule() string {
	if k.Intn(2) == 0 {
		return ""
	}
	return k.condition()
}

func (k *maker) condition() string {
	return pick(k.Rand, "true", " \t\r\ntrue ", "1 < 2 and 3 > 2", "number(i0, active) = 1", "\"<&>]]>\\\"'\" != \"\u00e9\"")
}

// link fills the sentries, once all items are there.
func (k *maker) link(i *api.Item) {
	for _, l := range [][]api.Sentry{i.Entry, i.Exit} {
		for n := range l {
			for range k.Intn(3) {
				l[n].On = append(l[n].On, k.on(i.ID)...)
			}
			if len(l[n].On) == 0 || k.Intn(2) == 0 {
				l[n].If = k.condition()
			}
		}
	}
	for _, l := range [][]api.Item{i.Kids, i.Table} {
		for n := range l {
			k.link(&l[n])
		}
	}
}

// on is an on-part, or none.
func (k *maker) on(own string) []api.OnPart {
	if len(k.paths) > 0 && k.Intn(2) == 0 {
		return []api.OnPart{onFile(pick(k.Rand, k.paths...), pick(k.Rand, 1, 21, 22, 23, 24, 25, 26, 27))}
	}
	item := "i" + strconv.Itoa(k.Intn(k.next))
	if item == own {
		return nil
	}
	return []api.OnPart{on(item, pick(k.Rand, 1, 10, 11, 12, 14, 15, 16))}
}

// bare has nil in place of all empty lists.
func bare(m api.Model) api.Model {
	m.Roles = append([]string(nil), m.Roles...)
	m.Files = bareFiles(m.Files)
	m.Plan = bareItems([]api.Item{m.Plan})[0]
	return m
}

func bareFiles(l []api.FileItem) []api.FileItem {
	var all []api.FileItem
	for _, f := range l {
		f.Refs, f.Kids = append([]string(nil), f.Refs...), bareFiles(f.Kids)
		all = append(all, f)
	}
	return all
}

func bareItems(l []api.Item) []api.Item {
	var all []api.Item
	for _, i := range l {
		i.Entry, i.Exit = append([]api.Sentry(nil), i.Entry...), append([]api.Sentry(nil), i.Exit...)
		i.Roles = append([]string(nil), i.Roles...)
		i.Kids, i.Table = bareItems(i.Kids), bareItems(i.Table)
		all = append(all, i)
	}
	return all
}

func TestP14_3Reads(t *testing.T) {
	r := rand.New(rand.NewSource(14))
	items := 0
	for range 1000 {
		k := &maker{Rand: r}
		m := k.model()
		b, err := Print(m)
		if err == api.ErrFull && model.Check(m) == api.OK {
			continue
		}
		e, where, wrong := xmltree.Parse(b)
		if err != api.OK || wrong != api.OK {
			t.Fatalf("%.2000v: error %d, error %d at %d", m, err, wrong, where)
		}
		if shown, _ := Element(m); !reflect.DeepEqual(shown, e) {
			t.Fatalf("Element(%.2000v) = %.2000v, its document is that of %.2000v", m, shown, e)
		}
		back := (&reader{map[string]api.Element{}, map[string]string{}}).model(e)
		if !reflect.DeepEqual(bare(back), bare(m)) {
			t.Fatalf("%.2000v is read back as %.2000v", m, back)
		}
		items += k.next
	}
	if items < 10000 {
		t.Error("one-sided:", items)
	}
}
