package store_test

import (
	"math"
	"reflect"
	"slices"
	"strconv"
	"strings"
	"testing"

	"dossier/api"
	"dossier/engine"
	"dossier/show"
	"dossier/store"
	"dossier/value"
)

// office is a model with something of every kind in it.
func office() api.Model {
	on := func(item string, event int) []api.Sentry {
		return []api.Sentry{{On: []api.OnPart{{Item: item, Event: event}}}}
	}
	return api.Model{ID: "office", Roles: []string{"boss", "clerk"}, Files: []api.FileItem{{Name: "order", Multi: api.MultiAny, Refs: []string{"order"}, Kids: []api.FileItem{{Name: "total", Kind: api.KindInt}}}}, Plan: api.Item{ID: "p", Kids: []api.Item{
		{ID: "t", Kind: api.ItemHuman, Roles: []string{"clerk"}},
		{ID: "u", Kind: api.ItemHuman, Entry: on("t", api.EvComplete), Repeat: "number(u, available) < 2"},
		{ID: "s", Kind: api.ItemStage, Manual: "true", Kids: []api.Item{{ID: "w", Kind: api.ItemTimer, After: 5}, {ID: "v", Kind: api.ItemProcess}}, Table: []api.Item{{ID: "x", Kind: api.ItemHuman, Roles: []string{"boss"}}}},
		{ID: "m", Kind: api.ItemMilestone, Entry: []api.Sentry{{If: "order.total > 5"}}},
		{ID: "l", Kind: api.ItemListener},
	}}}
}

// small is a model of which a case has one instance.
func small(id string) api.Model { return api.Model{ID: id, Plan: api.Item{ID: "p"}} }

// endless is one of which a case never comes to rest.
func endless() api.Model {
	return api.Model{ID: "endless", Plan: api.Item{ID: "p", Kids: []api.Item{{ID: "m", Kind: api.ItemMilestone, Repeat: "true", Entry: []api.Sentry{{If: "true"}}}}}}
}

func document(m api.Model) string {
	b, err := show.Print(m)
	if err != api.OK {
		panic(err)
	}
	return string(b)
}

func deploy(text string) api.Command { return api.Command{Verb: api.VerbDeploy, Text: text} }
func create(role, name string) api.Command {
	return api.Command{Verb: api.VerbCreate, Role: role, Name: name}
}
func do(id int, role, path string, event int) api.Command {
	return api.Command{Verb: api.VerbDo, Case: id, Role: role, Path: path, Event: event}
}
func plan(id int, role, path, name string) api.Command {
	return api.Command{Verb: api.VerbPlan, Case: id, Role: role, Path: path, Name: name}
}
func file(id, event int, path, name string, v api.Value) api.Command {
	return api.Command{Verb: api.VerbFile, Case: id, Event: event, Path: path, Name: name, Value: v}
}
func tick(id, time int) api.Command { return api.Command{Verb: api.VerbTick, Case: id, Int: time} }
func look(id int) api.Command       { return api.Command{Verb: api.VerbLook, Case: id} }

// stored is a store in which some commands were executed.
func stored(t *testing.T, most int, l ...api.Command) *store.Store {
	t.Helper()
	s, err := store.New(most)
	if err != api.OK {
		t.Fatal(most, err)
	}
	for _, k := range l {
		if a := s.Do(k, nil); a.Code != api.OK {
			t.Fatal(k, a)
		}
	}
	return s
}

// wantAnswer holds an answer, and that an error changes nothing.
func wantAnswer(t *testing.T, s *store.Store, k api.Command, want api.Answer) {
	t.Helper()
	before := s.Encode()
	if got := s.Do(k, []int{3, 1, 2}); !same(got, want) {
		t.Errorf("%v: %v, not %v", k, got, want)
	}
	if (want.Code != api.OK || !store.Changes(k.Verb)) && !slices.Equal(s.Encode(), before) {
		t.Errorf("%v: the store was changed", k)
	}
}

// same reports whether two values are, where nil and empty lists mean the same.
func same(a, b any) bool { return alike(reflect.ValueOf(a), reflect.ValueOf(b)) }

func alike(a, b reflect.Value) bool {
	switch a.Kind() {
	case reflect.Struct:
		for k := range a.NumField() {
			if !alike(a.Field(k), b.Field(k)) {
				return false
			}
		}
		return true
	case reflect.Slice:
		for k := range min(a.Len(), b.Len()) {
			if !alike(a.Index(k), b.Index(k)) {
				return false
			}
		}
		return a.Len() == b.Len()
	}
	return a.Equal(b)
}

// stateOf is a case of a store.
func stateOf(t *testing.T, s *store.Store, id int) api.Case {
	t.Helper()
	a := s.Do(look(id), nil)
	if a.Code != api.OK {
		t.Fatal(id, a)
	}
	return a.State
}

func TestP32_1New(t *testing.T) {
	for _, most := range []int{1, 2, api.MaxInst - 1, api.MaxInst} {
		s, err := store.New(most)
		if err != api.OK || s.Most() != most || len(s.Do(api.Command{Verb: api.VerbList}, nil).Names) != 0 {
			t.Errorf("%d: %v", most, err)
		}
	}
	for _, most := range []int{0, -1, api.MaxInst + 1, math.MaxInt, math.MinInt} {
		if s, err := store.New(most); err != api.ErrArg || s != nil {
			t.Errorf("%d: %v, %v", most, s, err)
		}
	}
}

// unmade are stores that no call made.
func unmade() []*store.Store { return []*store.Store{nil, {}, new(store.Store)} }

func TestP32_1Unmade(t *testing.T) {
	for _, s := range unmade() {
		for verb := range 12 {
			if a := s.Do(api.Command{Verb: verb, Case: 1, Text: document(office())}, nil); !reflect.DeepEqual(a, api.Answer{Code: api.ErrNil}) {
				t.Error(verb, a)
			}
		}
	}
}

func TestP32_1Deploy(t *testing.T) {
	s := stored(t, 30)
	wantAnswer(t, s, deploy(""), api.Answer{Code: api.ErrNest})
	wantAnswer(t, s, deploy("<a><b></a>"), api.Answer{Code: api.ErrNest, Offset: 6})
	wantAnswer(t, s, deploy("<a/>"), api.Answer{Code: api.ErrModel})
	wantAnswer(t, s, deploy(strings.Repeat(" ", api.MaxText+1)), api.Answer{Code: api.ErrFull})
	wantAnswer(t, s, deploy(document(office())), api.Answer{Names: []string{"office"}})
	wantAnswer(t, s, deploy(document(office())), api.Answer{Code: api.ErrKnown})
	wantAnswer(t, s, deploy(document(small("office"))), api.Answer{Code: api.ErrKnown})
	for k := 1; k < api.MaxModels; k++ {
		id := "m" + strconv.Itoa(k)
		wantAnswer(t, s, deploy("<!-- "+id+" -->"+document(small(id))), api.Answer{Names: []string{id}})
	}
	wantAnswer(t, s, deploy(document(small("m"))), api.Answer{Code: api.ErrFull})
	wantAnswer(t, s, deploy(document(office())), api.Answer{Code: api.ErrKnown})
	wantAnswer(t, s, deploy(" <a"), api.Answer{Code: api.ErrMark, Offset: 1})
	// What other verbs have does not matter.
	s = stored(t, 30)
	wantAnswer(t, s, api.Command{Verb: api.VerbDeploy, Case: -1, Role: "x", Name: "y", Path: "z", Event: -1, Int: -1, Text: document(office())}, api.Answer{Names: []string{"office"}})
}

func TestP32_1Create(t *testing.T) {
	s := stored(t, 30, deploy(document(office())), deploy(document(small("small"))), deploy(document(endless())))
	wantAnswer(t, s, create("", ""), api.Answer{Code: api.ErrNone})
	wantAnswer(t, s, create("boss", "Office"), api.Answer{Code: api.ErrNone})
	wantAnswer(t, s, create("stranger", "office"), api.Answer{Code: api.ErrRole})
	wantAnswer(t, s, create("t", "office"), api.Answer{Code: api.ErrRole})
	wantAnswer(t, s, create("boss", "small"), api.Answer{Code: api.ErrRole})
	wantAnswer(t, s, create("stranger", "endless"), api.Answer{Code: api.ErrRole})
	wantAnswer(t, s, create("", "endless"), api.Answer{Code: api.ErrBudget})
	for id := 1; id <= api.MaxCases; id++ {
		k := []api.Command{create("", "office"), create("boss", "office"), create("", "small"), create("clerk", "office")}[id%4]
		wantAnswer(t, s, k, api.Answer{Case: id})
		m := map[string]api.Model{"office": office(), "small": small("small")}[k.Name]
		want, _, err := engine.New(m, id, nil, 30)
		if got := stateOf(t, s, id); err != api.OK || !same(got, want) {
			t.Errorf("%d: %v, not %v", id, got, want)
		}
		wantAnswer(t, s, create("", "none"), api.Answer{Code: api.ErrNone})
	}
	wantAnswer(t, s, create("", ""), api.Answer{Code: api.ErrNone})
	wantAnswer(t, s, create("stranger", "office"), api.Answer{Code: api.ErrRole})
	wantAnswer(t, s, create("boss", "office"), api.Answer{Code: api.ErrFull})
	wantAnswer(t, s, create("", "endless"), api.Answer{Code: api.ErrFull})
}

func TestP32_1CreateWithinMost(t *testing.T) {
	first, _, err := engine.New(office(), 1, nil, api.MaxInst)
	if err != api.OK {
		t.Fatal(err)
	}
	for most := 1; most <= len(first.Insts)+1; most++ {
		s := stored(t, most, deploy(document(office())), deploy(document(small("small"))))
		want := api.Answer{Case: 1}
		if most < len(first.Insts) {
			want = api.Answer{Code: api.ErrBudget}
		}
		wantAnswer(t, s, create("", "office"), want)
		wantAnswer(t, s, create("", "small"), api.Answer{Case: want.Case + 1})
	}
}

func TestP32_1None(t *testing.T) {
	s := stored(t, 30, deploy(document(office())))
	for cases := range 3 {
		for _, id := range []int{-1, 0, cases + 1, cases + 2, api.MaxCases, 1 << 31, math.MaxInt, math.MinInt} {
			for verb := api.VerbDo; verb <= api.VerbLook; verb++ {
				for _, role := range []string{"", "stranger"} {
					wantAnswer(t, s, api.Command{Verb: verb, Case: id, Role: role, Int: -1}, api.Answer{Code: api.ErrNone})
				}
			}
		}
		wantAnswer(t, s, create("", "office"), api.Answer{Case: cases + 1})
	}
}

// TestP32_1Commands holds the verbs that a case is for against the engine, on the second of three cases.
func TestP32_1Commands(t *testing.T) {
	s := stored(t, 10, deploy(document(small("small"))), deploy(document(office())), create("", "small"), create("", "office"), create("", "office"))
	met := map[api.Errno]int{}
	for _, k := range []api.Command{
		do(2, "clerk", "p.1/t.1", api.EvSuspend), do(2, "", "p.1/t.1", api.EvResume), do(2, "clerk", "p.1/t.1", api.EvResume), do(2, "clerk", "p.1/t.1", api.EvResume),
		do(2, "", "p.1/none.1", api.EvResume), do(2, "", "p.1/s.1", api.EvManual), do(2, "", "p.1/s.1", api.EvComplete), tick(2, 4), tick(2, -1), tick(2, api.MaxTick+1), tick(2, 1),
		plan(2, "", "p.1/s.1", "x"), plan(2, "boss", "p.1/s.1", "x"), plan(2, "boss", "p.1/s.1", "y"), plan(2, "boss", "p.1/s.1", "x"), plan(2, "boss", "p.1/s.1", "x"),
		file(2, api.EvCreate, "", "order", api.Value{}), file(2, api.EvCreate, "", "none", api.Value{}), file(2, api.EvAddChild, "order#1", "total", value.Int(5)), file(2, api.EvUpdate, "order#1.total#1", "", value.Bool(true)),
		file(2, api.EvUpdate, "order#1.total#1", "", value.Int(6)), file(2, api.EvAddChild, "order#1", "total", value.Int(5)), {Verb: api.VerbFile, Case: 2, Role: "stranger"},
		do(2, "clerk", "p.1/t.1", api.EvComplete), do(2, "", "p.1", api.EvTerminate), file(2, api.EvDelete, "order#1", "", api.Value{}), do(2, "", "p.1", api.EvClose), tick(2, 1),
	} {
		c, others := stateOf(t, s, 2), []api.Case{stateOf(t, s, 1), stateOf(t, s, 3)}
		want, _, err := engine.Do(office(), c, k, nil, 10)
		wantAnswer(t, s, k, api.Answer{Code: err})
		if err != api.OK {
			want = c
		}
		if got := stateOf(t, s, 2); !same(got, want) {
			t.Errorf("%v: %v, not %v", k, got, want)
		}
		if !same(others, []api.Case{stateOf(t, s, 1), stateOf(t, s, 3)}) {
			t.Errorf("%v: another case was changed", k)
		}
		met[err]++
	}
	for _, err := range []api.Errno{api.ErrNone, api.ErrRole, api.ErrState, api.ErrNeeded, api.ErrArg, api.ErrBudget, api.ErrKind, api.ErrMulti} {
		if met[err] == 0 {
			t.Error("there was no", err)
		}
	}
}

func TestP32_1Look(t *testing.T) {
	s := stored(t, 30, deploy(document(office())), create("", "office"), create("boss", "office"), tick(2, 9))
	for id, clock := range []int{0, 9} {
		want, _, _ := engine.New(office(), id+1, nil, 30)
		want.Clock = clock
		wantAnswer(t, s, look(id+1), api.Answer{State: want})
	}
	wantAnswer(t, s, api.Command{Verb: api.VerbLook, Case: 1, Role: "stranger", Name: "x", Path: "y", Event: 1, Int: -1, Text: "z"}, api.Answer{State: stateOf(t, s, 1)})
}

func TestP32_1List(t *testing.T) {
	list := api.Command{Verb: api.VerbList}
	s := stored(t, 30)
	wantAnswer(t, s, list, api.Answer{})
	stored := []string{"z", "office", "a", "m3", "m2", "m1", "Z", "b", "m10", "_"}
	names := []string(nil)
	for _, id := range stored {
		m := office()
		m.ID = id
		s.Do(deploy(document(m)), nil)
		names = append(names, id)
		wantAnswer(t, s, list, api.Answer{Names: names})
	}
	for id := 1; id <= api.MaxCases; id++ {
		name := stored[id*7%len(stored)]
		s.Do(create("boss", name), nil)
		names = append(names, strconv.Itoa(id)+":"+name)
		wantAnswer(t, s, list, api.Answer{Names: names})
		s.Do(do(id, "", "p.1", api.EvTerminate), nil) // the case remains in the list
	}
	wantAnswer(t, s, api.Command{Verb: api.VerbList, Case: 99, Role: "stranger", Name: "x", Text: "y"}, api.Answer{Names: names})
}

func TestP32_1ListWhileCasesCome(t *testing.T) {
	s := stored(t, 30, deploy(document(small("b"))), create("", "b"), deploy(document(small("a"))), create("", "a"), create("", "b"))
	wantAnswer(t, s, api.Command{Verb: api.VerbList}, api.Answer{Names: []string{"b", "a", "1:b", "2:a", "3:b"}})
}

func TestP32_1Compact(t *testing.T) {
	for _, s := range []*store.Store{stored(t, 30), stored(t, 30, deploy(document(office())), create("", "office"))} {
		wantAnswer(t, s, api.Command{Verb: api.VerbCompact}, api.Answer{})
		wantAnswer(t, s, api.Command{Verb: api.VerbCompact, Case: 9, Role: "stranger"}, api.Answer{})
	}
}

func TestP32_1Verbs(t *testing.T) {
	for _, s := range []*store.Store{stored(t, 30), stored(t, 30, deploy(document(office())), create("", "office"))} {
		for _, verb := range []int{0, -1, 10, 11, 1 << 31, math.MaxInt, math.MinInt} {
			wantAnswer(t, s, api.Command{Verb: verb, Case: 1, Name: "office", Path: "p.1", Event: api.EvSuspend}, api.Answer{Code: api.ErrVerb})
		}
	}
}

func TestP32_2Changes(t *testing.T) {
	for verb := -3; verb < 20; verb++ {
		if got := store.Changes(verb); got != (verb >= api.VerbDeploy && verb <= api.VerbTick) {
			t.Error(verb, got)
		}
	}
	if store.Changes(math.MaxInt) || store.Changes(math.MinInt) {
		t.Error("there are no such verbs")
	}
}

func TestP32_2Unmade(t *testing.T) {
	for _, s := range unmade() {
		s.Do(deploy(document(office())), nil)
		if len(s.Encode()) != 0 || s.Copy() != nil || s.Most() != 0 {
			t.Error(s.Encode(), s.Copy(), s.Most())
		}
	}
}

func TestP32_2Copy(t *testing.T) {
	begin := []api.Command{deploy(document(office())), create("", "office"), create("", "office"), do(1, "", "p.1/s.1", api.EvManual)}
	further := []api.Command{deploy(document(small("small"))), create("", "office"), do(1, "", "p.1/s.1", api.EvSuspend), plan(1, "boss", "p.1/s.1", "x"), file(2, api.EvCreate, "", "order", api.Value{}), tick(1, 5), do(2, "clerk", "p.1/t.1", api.EvComplete)}
	for n := range len(begin) + 1 {
		for _, k := range further {
			s := stored(t, 30, begin[:n]...)
			before := s.Encode()
			c := s.Copy()
			if !slices.Equal(c.Encode(), before) || c.Most() != 30 {
				t.Fatal(n, "the copy is another store")
			}
			changes := c.Do(k, nil).Code == api.OK
			if !slices.Equal(s.Encode(), before) || slices.Equal(c.Encode(), before) == changes {
				t.Errorf("%d, %v: the copy changes the original", n, k)
			}
			c = s.Copy()
			s.Do(k, nil)
			if !slices.Equal(c.Encode(), before) || slices.Equal(s.Encode(), before) == changes {
				t.Errorf("%d, %v: the original changes the copy", n, k)
			}
		}
	}
}

func TestP32_2NewMemory(t *testing.T) {
	s := stored(t, 30, deploy(document(office())), create("", "office"), file(1, api.EvCreate, "", "order", api.Value{}), file(1, api.EvCreate, "", "order", api.Value{}), file(1, api.EvAddRef, "order#1", "order#2", api.Value{}))
	before := s.Encode()
	for _, k := range []api.Command{look(1), {Verb: api.VerbList}, look(1)} {
		a := s.Do(k, nil)
		b := s.Encode()
		for _, x := range a.State.Insts {
			clear(x.Latches[:cap(x.Latches)])
			x.Latches = append(x.Latches, 9)
		}
		for _, d := range a.State.Docs {
			clear(d.Refs[:cap(d.Refs)])
		}
		clear(a.State.Insts[:cap(a.State.Insts)])
		clear(a.State.Docs[:cap(a.State.Docs)])
		clear(a.Names[:cap(a.Names)])
		clear(b[:cap(b)])
		if !slices.Equal(s.Encode(), before) {
			t.Fatal(k, "a result is the store's own")
		}
	}
	order := append(make([]int, 0, 9), 3, 1)
	s.Do(do(1, "clerk", "p.1/t.1", api.EvComplete), order)
	if !slices.Equal(order[:cap(order)], []int{3, 1, 0, 0, 0, 0, 0, 0, 0}) {
		t.Error(order)
	}
	b := append(make([]byte, 0, 9999), before...)
	d, err := store.Decode(b)
	clear(b)
	if err != api.OK || !slices.Equal(d.Encode(), before) || slices.ContainsFunc(b[:cap(b)], func(x byte) bool { return x != 0 }) {
		t.Error("a store keeps or changes the bytes that it was read from")
	}
}
