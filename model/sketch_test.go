package model

import (
	"math/rand"
	"reflect"
	"regexp"
	"slices"
	"strconv"
	"strings"
	"testing"

	"dossier/api"
	"dossier/check"
	"dossier/shape"
)

func pick[T any](r *rand.Rand, l ...T) T { return l[r.Intn(len(l))] }

// A maker makes models, of which some are wrong.
type maker struct {
	*rand.Rand
	wrong int // one in so many
	next  int // the number of the next item
}

func (k *maker) errs() bool { return k.Intn(k.wrong) == 0 }

var truths = []string{"true", "order.total > 1", "count(note) = 0", "number(i0, active) < 2", "false or true"}

func (k *maker) condition() string {
	if k.errs() {
		return pick(k.Rand, "1", "none", "(", "?", "number(x, active) = 1", strings.Repeat(" ", 401))
	}
	return pick(k.Rand, truths...)
}

// rule is none as often as not.
func (k *maker) rule() string {
	if k.Intn(2) == 0 {
		return ""
	}
	return k.condition()
}

func (k *maker) model() api.Model {
	m := api.Model{ID: "m", Name: "n", Roles: []string{"r0", "r1", "r2"}, Files: []api.FileItem{{Name: "order", Kids: []api.FileItem{{Name: "total", Kind: 1}}}, {Name: "note", Multi: 2}}}
	if k.errs() {
		m.ID = pick(k.Rand, "", "a b", strings.Repeat("x", 65), "not")
	}
	if k.errs() {
		m.Name = pick(k.Rand, "\x00", strings.Repeat("x", 65))
	}
	if k.errs() {
		m.Roles = append(m.Roles, pick(k.Rand, []string{"r0"}, []string{"not"}, make([]string, 20), strings.Split(strings.Repeat("a ", 16)+"a", " "))...)
	}
	if k.errs() {
		m.Files[1] = pick(k.Rand, api.FileItem{Name: "order"}, api.FileItem{Name: "x", Kind: 7}, api.FileItem{})
	}
	m.Plan = k.item(api.ItemStage, 4, 5)
	m.Plan.Entry, m.Plan.Manual, m.Plan.Required, m.Plan.Repeat, m.Plan.Roles = nil, "", "", "", nil
	if k.errs() {
		m.Plan = k.item(k.Intn(8), 2, 3)
	}
	if k.errs() {
		m.Plan.Table = pick(k.Rand, row("n", 250), nest(30))
	}
	k.link(&m.Plan)
	return m
}

// item makes an item with so many levels below it, and so many items at the most on each side of it.
func (k *maker) item(kind, levels, most int) api.Item {
	i := api.Item{ID: "i" + strconv.Itoa(k.next), Name: "name", Kind: kind}
	k.next++
	if k.errs() {
		i.ID = pick(k.Rand, "i0", "i1", "", "a b", "not", "\xff")
	}
	if k.errs() {
		i.Name = pick(k.Rand, "\x00", strings.Repeat("x", 65))
	}
	if k.errs() {
		i.Kind = k.Intn(12) - 2
	}
	k.fill(&i, kind)
	for range k.Intn(most + 1) {
		if kind == api.ItemStage && levels > 0 {
			list := pick(k.Rand, &i.Kids, &i.Kids, &i.Table)
			*list = append(*list, k.item(k.Intn(8), levels-1, most))
		}
	}
	return i
}

// fill sets fields that the kind may have, and others.
func (k *maker) fill(i *api.Item, kind int) {
	for _, field := range []struct {
		name string
		set  func()
	}{
		{"Manual", func() { i.Manual = k.rule() }},
		{"Required", func() { i.Required = k.rule() }},
		{"Repeat", func() { i.Repeat = k.rule() }},
		{"Roles", func() { i.Roles = k.roles() }},
		{"Auto", func() { i.Auto = true }},
		{"Free", func() { i.Free = true }},
		{"After", func() { i.After = pick(k.Rand, 1, 5, 1<<31) }},
		{"Entry", func() { i.Entry = make([]api.Sentry, k.Intn(4)) }},
		{"Exit", func() { i.Exit = make([]api.Sentry, k.Intn(4)) }},
	} {
		may := allowed(kind, field.name)
		if may && (field.name == "After" || k.Intn(2) == 0) || !may && k.Intn(8*k.wrong) == 0 {
			field.set()
		}
	}
	if k.errs() {
		i.After = pick(k.Rand, 0, -1, 1<<31+1)
	}
	if k.errs() {
		i.Entry = make([]api.Sentry, 9)
	}
}

func (k *maker) roles() []string {
	l := []string{"r0", "r1", "r2"}
	k.Shuffle(len(l), func(a, b int) { l[a], l[b] = l[b], l[a] })
	l = l[:k.Intn(4)]
	if k.errs() {
		l = append(l, pick(k.Rand, []string{"r0", "r0"}, []string{"x"}, []string{""}, make([]string, 9))...)
	}
	return l
}

// link fills the sentries, once all items are there.
func (k *maker) link(i *api.Item) {
	for _, l := range [][]api.Sentry{i.Entry, i.Exit} {
		for n := range l {
			for range k.Intn(4) {
				l[n].On = append(l[n].On, k.on(i.ID))
			}
			if len(l[n].On) == 0 || k.Intn(2) == 0 {
				l[n].If = k.condition()
			}
			if k.errs() {
				l[n] = pick(k.Rand, api.Sentry{}, api.Sentry{On: make([]api.OnPart, 9)})
			}
		}
	}
	for _, l := range [][]api.Item{i.Kids, i.Table} {
		for n := range l {
			k.link(&l[n])
		}
	}
}

// on waits for an event that every item has, unless it errs.
func (k *maker) on(own string) api.OnPart {
	if k.errs() {
		return pick(k.Rand, api.OnPart{}, on(own, 1), on("i0", 99), on("x", 1), onFile("x", 1), onFile("note", 5), api.OnPart{Item: "i0", File: "note", Event: 1})
	}
	item := "i" + strconv.Itoa(k.Intn(k.next))
	if item == own || k.Intn(4) == 0 {
		return onFile(pick(k.Rand, "order", "order.total", "note"), pick(k.Rand, 1, 21, 27))
	}
	return on(item, pick(k.Rand, 1, 10, 14, 16))
}

// A flat item is one with the IDs around it.
type flat struct {
	item   api.Item
	around []string
}

func flatten(i api.Item, around []string) []flat {
	all := []flat{{i, around}}
	inner := append(slices.Clone(around), i.ID)
	for _, below := range slices.Concat(i.Kids, i.Table) {
		all = append(all, flatten(below, inner)...)
	}
	return all
}

func allowed(kind int, field string) bool {
	lists := []string{"Entry Exit Manual Required Repeat Roles Auto Kids Table", "Entry Exit Manual Required Repeat Roles Free", "Entry Required Repeat", "Roles", "After"}
	list := map[int]int{0: 0, 1: 1, 2: 1, 3: 1, 4: 1, 5: 2, 6: 3, 7: 4}
	at, is := list[kind]
	return is && slices.Contains(strings.Fields(lists[at]), field)
}

var nameForm = regexp.MustCompile(`^[A-Za-z_][A-Za-z_0-9]{0,63}$`)

var titleForm = regexp.MustCompile(`^[\x{9}\x{a}\x{d}\x{20}-\x{d7ff}\x{e000}-\x{fffd}\x{10000}-\x{10ffff}]*$`)

func named(s string) bool {
	return nameForm.MatchString(s) && !slices.Contains([]string{"and", "or", "not", "true", "false", "count", "number"}, s)
}

func titled(s string) bool {
	return len(s) <= 64 && titleForm.MatchString(s) && strings.ToValidUTF8(s, "") == s
}

func distinct(l []string) bool {
	met := map[string]bool{}
	for _, s := range l {
		met[s] = true
	}
	return len(met) == len(l)
}

// A sketch lists what is wrong with a model, all of it, in the order of the chapter.
type sketch struct {
	m      api.Model
	ids    []string
	kinds  map[string]int
	wrongs []api.Errno
}

func (k *sketch) need(is bool, err api.Errno) {
	if !is {
		k.wrongs = append(k.wrongs, err)
	}
}

func (k *sketch) truth(s string) {
	err := check.Truth(s, k.m.Files, k.ids)
	k.need(err == api.OK, err)
}

func (k *sketch) head() {
	m := k.m
	k.need(named(m.ID), api.ErrName)
	k.need(titled(m.Name), api.ErrName)
	for _, role := range m.Roles {
		k.need(named(role), api.ErrName)
	}
	k.need(len(m.Roles) <= 16, api.ErrFull)
	k.need(distinct(m.Roles), api.ErrTwice)
	err := shape.Check(m.Files)
	k.need(err == api.OK, err)
	p := m.Plan
	k.need(p.Kind == 0 && len(p.Entry)+len(p.Roles)+len(p.Manual+p.Required+p.Repeat) == 0, api.ErrModel)
}

func (k *sketch) item(i api.Item) {
	k.need(named(i.ID), api.ErrName)
	k.need(titled(i.Name), api.ErrName)
	k.need(!slices.Contains(k.ids, i.ID), api.ErrTwice)
	k.need(i.Kind >= 0 && i.Kind <= 7, api.ErrModel)
	v := reflect.ValueOf(i)
	for n := range v.NumField() {
		f, name := v.Field(n), v.Type().Field(n).Name
		empty := f.IsZero() || f.Kind() == reflect.Slice && f.Len() == 0
		k.need(empty || slices.Contains([]string{"ID", "Name", "Kind"}, name) || allowed(i.Kind, name), api.ErrModel)
	}
	k.need(i.Kind != 7 || i.After >= 1 && i.After <= 2147483648, api.ErrModel)
	k.need(len(i.Roles) <= 8, api.ErrFull)
	for _, role := range i.Roles {
		k.need(slices.Contains(k.m.Roles, role), api.ErrName)
	}
	k.need(distinct(i.Roles), api.ErrTwice)
	if _, is := k.kinds[i.ID]; !is {
		k.kinds[i.ID] = i.Kind
	}
	k.ids = append(k.ids, i.ID)
}

func (k *sketch) sentry(own string, s api.Sentry) {
	k.need(len(s.On) <= 8, api.ErrFull)
	k.need(len(s.On) > 0 || s.If != "", api.ErrModel)
	for _, o := range s.On {
		k.need(o.Item != "" || o.File != "", api.ErrModel)
		k.need(o.Item == "" || o.File == "", api.ErrModel)
		k.need(o.Item != own, api.ErrModel)
		kind, is := k.kinds[o.Item]
		is = is || slices.Contains(shape.Paths(k.m.Files), o.File)
		k.need(is, api.ErrName)
		k.need(o.Item != "" && Events(kind, o.Event) || o.File != "" && FileEvent(o.Event), api.ErrModel)
	}
	k.truth(s.If)
}

// sketched is the first error of a model.
func sketched(m api.Model) api.Errno {
	k := &sketch{m: m, kinds: map[string]int{}}
	k.head()
	all := flatten(m.Plan, nil)
	for _, x := range all {
		k.need(len(all) <= 200 && len(x.around) <= 23, api.ErrFull)
	}
	for _, x := range all {
		k.item(x.item)
	}
	for _, x := range all {
		for _, l := range [][]api.Sentry{x.item.Entry, x.item.Exit} {
			k.need(len(l) <= 8, api.ErrFull)
			for _, s := range l {
				k.sentry(x.item.ID, s)
			}
		}
		k.truth(x.item.Manual)
		k.truth(x.item.Required)
		k.truth(x.item.Repeat)
	}
	if len(k.wrongs) == 0 {
		return api.OK
	}
	return k.wrongs[0]
}

func TestP13_1Sketch(t *testing.T) {
	r := rand.New(rand.NewSource(13))
	met := map[api.Errno]int{}
	for range 12000 {
		k := &maker{r, pick(r, 15, 60, 400), 0}
		m := k.model()
		want := sketched(m)
		if err := Check(m); err != want {
			t.Fatalf("Check(%+v) = error %d, want error %d", m, err, want)
		}
		met[want]++
	}
	for _, err := range []api.Errno{api.OK, api.ErrFull, api.ErrTwice, api.ErrName, api.ErrModel, api.ErrKind} {
		if met[err] < 100 {
			t.Error("one-sided:", met)
		}
	}
}

// commonEnd is the last element that two lists have in common from the start on.
func commonEnd(a, b []string) string {
	for n := min(len(a), len(b)); n > 0; n-- {
		if slices.Equal(a[:n], b[:n]) {
			return a[n-1]
		}
	}
	return ""
}

func TestP13_2Sketch(t *testing.T) {
	r := rand.New(rand.NewSource(132))
	for range 1500 {
		k := &maker{r, pick(r, 15, 400), 0}
		m := k.model()
		all := flatten(m.Plan, nil)
		way := map[string][]string{}
		for n, i := range Items(m) {
			if !alike(i, all[n].item) {
				t.Fatalf("Items(%+v): %d is %+v", m, n, i)
			}
			if _, is := way[i.ID]; is {
				continue
			}
			way[i.ID] = all[n].around
			found, is := Find(m, i.ID)
			if !is || !alike(found, i) || !slices.Equal(Way(m, i.ID), all[n].around) {
				t.Fatalf("%+v: Find(%q) = %+v, Way %q", m, i.ID, found, Way(m, i.ID))
			}
		}
		for range 20 {
			a, b := pick(r, all...).item.ID, pick(r, all...).item.ID
			if s := Scope(m, a, b); s != commonEnd(way[a], way[b]) {
				t.Fatalf("%+v: Scope(%q, %q) = %q", m, a, b, s)
			}
		}
	}
}

func TestP13_4ItemsOfValidModels(t *testing.T) {
	r := rand.New(rand.NewSource(134))
	valid := 0
	for range 3000 {
		k := &maker{r, 1000, 0}
		m := k.model()
		if Check(m) != api.OK {
			continue
		}
		valid++
		for n, i := range Items(m) {
			found, is := Find(m, i.ID)
			way := Way(m, i.ID)
			if !is || !alike(found, i) || (n == 0) != (len(way) == 0) || n > 0 && way[0] != m.Plan.ID {
				t.Fatalf("%+v: %q, found %+v, way %q", m, i.ID, found, way)
			}
		}
	}
	if valid < 1000 {
		t.Error("one-sided:", valid)
	}
}
