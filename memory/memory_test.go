// Package memory holds the document's rule 'Memory' for the calls of layers 19 to 36: arguments are left alone, and no list of a result is in memory of another list.
package memory

import (
	"maps"
	"reflect"
	"slices"
	"testing"

	"dossier/api"
	"dossier/audit"
	"dossier/cascade"
	"dossier/codec"
	"dossier/engine"
	"dossier/finish"
	"dossier/index"
	"dossier/latch"
	"dossier/model"
	"dossier/planning"
	"dossier/repo"
	"dossier/report"
	"dossier/roles"
	"dossier/round"
	"dossier/rules"
	"dossier/sem"
	"dossier/server"
	"dossier/settle"
	"dossier/show"
	"dossier/store"
	"dossier/tree"
	"dossier/vdisk"
	"dossier/wire"
	"dossier/world"
)

// each visits all lists in the value that a pointer points to.
func each(v reflect.Value, visit func(list reflect.Value)) {
	switch v.Kind() {
	case reflect.Pointer:
		each(v.Elem(), visit)
	case reflect.Struct:
		for k := range v.NumField() {
			each(v.Field(k), visit)
		}
	case reflect.Slice:
		visit(v)
		for k := range v.Len() {
			each(v.Index(k), visit)
		}
	}
}

// widen gives all lists new memory, with spare capacity of zeros.
func widen(p any) {
	each(reflect.ValueOf(p), func(list reflect.Value) {
		wide := reflect.MakeSlice(list.Type(), list.Len()+3, list.Len()+3)
		reflect.Copy(wide, list)
		list.Set(wide.Slice(0, list.Len()))
	})
}

// unspoilt reports whether the spare capacity of all lists is zeros.
func unspoilt(p any) bool {
	is := true
	each(reflect.ValueOf(p), func(list reflect.Value) {
		for k := list.Len(); k < list.Cap(); k++ {
			is = is && list.Slice(0, list.Cap()).Index(k).IsZero()
		}
	})
	return is
}

// A stretch of memory is that of a list, spare capacity included.
type stretch struct{ from, to uintptr }

func stretches(p any) []stretch {
	var l []stretch
	each(reflect.ValueOf(p), func(list reflect.Value) {
		if size := uintptr(list.Cap()) * list.Type().Elem().Size(); size > 0 {
			l = append(l, stretch{list.Pointer(), list.Pointer() + size})
		}
	})
	return l
}

type arguments struct {
	Model   api.Model
	Case    api.Case
	Events  []api.Event
	Firings []api.Firing
	Order   []int
	Answer  api.Answer
	Bytes   []byte
	Printed []byte // the document of the model
	Stored  []byte // a store with the model and the case
}

type results struct {
	Case        api.Case
	Events      []api.Event
	Hooks, More []api.Hook
	Paths       []string // or IDs
	Firings     []api.Firing
	Commands    []api.Command
	Numbers     []int
	Answer      api.Answer
	Answers     []api.Answer
	Models      []api.Model
	Bytes       []byte
	Pieces      [][]byte
}

// given are arguments with spare capacity everywhere.
func given(t *testing.T) arguments {
	t.Helper()
	waits := []api.Sentry{{On: []api.OnPart{{Item: "u", Event: api.EvStart}, {Item: "a", Event: api.EvStart}}}, {If: "true"}}
	g := arguments{Model: api.Model{ID: "m", Roles: []string{"r"}, Files: []api.FileItem{{Name: "f", Multi: api.MultiAny, Refs: []string{"f"}}}, Plan: api.Item{ID: "p", Exit: waits[1:], Kids: []api.Item{
		{ID: "s", Kind: api.ItemStage, Exit: waits, Kids: []api.Item{
			{ID: "t", Kind: api.ItemHuman, Entry: waits, Roles: []string{"r"}}, {ID: "u", Kind: api.ItemStage, Kids: []api.Item{{ID: "w", Kind: api.ItemTimer, After: 5}}, Repeat: "true", Required: "true"},
		}, Table: []api.Item{{ID: "d", Kind: api.ItemCase, Entry: waits}}},
		{ID: "a", Kind: api.ItemProcess, Free: true, Entry: waits[1:], Exit: waits[1:]},
	}}}}
	c, l, err := cascade.Root(g.Model, 1, 9)
	for _, path := range []string{"p.1/s.1", "p.1/s.1/u.1"} {
		var more []api.Event
		if err == api.OK {
			c, more, err = cascade.Do(g.Model, c, path, api.EvStart, 9)
		}
		l = append(l, more...)
	}
	if err != api.OK || len(c.Insts) != 6 {
		t.Fatal(err, c)
	}
	c.Docs = []api.Doc{{Path: "f#1", Refs: []string{"f#1", "f#2"}}, {Path: "f#2", Refs: []string{"f#2"}}}
	g.Case, g.Events, g.Order = c, l, []int{2, -1, 7}
	g.Firings = []api.Firing{{Path: "p.1/s.1/t.1", Event: api.EvStart}, {Path: "p.1/s.1/u.1", Event: api.EvExit}, {Path: "p.1/a.1", Event: api.EvStart, Again: true}, {Path: "p.1/s.1/u.1/w.1", Event: api.EvOccur}}
	g.Answer, g.Bytes = api.Answer{Names: []string{"m", "1:m"}, State: tree.Copy(c)}, codec.Case(nil, c)
	if g.Printed, err = show.Print(g.Model); err != api.OK {
		t.Fatal(err)
	}
	g.Stored = slices.Concat(wire.Text([]byte{40, 2}, string(g.Printed)), []byte{2}, g.Bytes)
	widen(&g)
	return g
}

// calls are those that are held here, by their names.
func calls(t *testing.T) map[string]func(g arguments) results {
	l := callsBelow()
	maps.Copy(l, callsAbove())
	maps.Copy(l, callsOfRounds(t))
	maps.Copy(l, callsOfPropagations())
	maps.Copy(l, callsOfRoles())
	maps.Copy(l, callsOfCommands())
	maps.Copy(l, callsOfBytes())
	maps.Copy(l, callsOfStores())
	maps.Copy(l, callsOfServers())
	maps.Copy(l, callsOfReports())
	return l
}

// callsBelow are those of layers 19 and 20.
func callsBelow() map[string]func(g arguments) results {
	l := map[string]func(g arguments) results{
		"Root": func(g arguments) results {
			c, l, _ := cascade.Root(g.Model, 1, 9)
			return results{Case: c, Events: l}
		},
		"Create": func(g arguments) results {
			c, l, _ := cascade.Create(g.Model, g.Case, "p.1/s.1", "d", 9)
			return results{Case: c, Events: l}
		},
		"Latch":              func(g arguments) results { return results{Case: latch.Latch(g.Model, g.Case, g.Events)} },
		"Latch of no events": func(g arguments) results { return results{Case: latch.Latch(g.Model, g.Case, nil)} },
		"Clear":              func(g arguments) results { return results{Case: latch.Clear(g.Model, g.Case, "p.1/s.1/t.1")} },
		"Clear of none":      func(g arguments) results { return results{Case: latch.Clear(g.Model, g.Case, "p.1/s.1/t.2")} },
		"Matches and Satisfied": func(g arguments) results {
			latch.Matches(g.Model, g.Case.Insts[0], g.Model.Plan.Kids[0].Exit[0].On[0], g.Events[0])
			latch.Satisfied(g.Model, g.Case, "p.1/s.1/t.1", true)
			return results{Case: tree.Copy(g.Case)}
		},
	}
	for _, x := range []struct {
		path  string
		event int
	}{
		{"p.1", api.EvComplete}, {"p.1/s.1", api.EvSuspend}, {"p.1/s.1", api.EvExit}, {"p.1/s.1", api.EvFault}, {"p.1/s.1/u.1", api.EvTerminate}, {"p.1/a.1", api.EvStart}, {"p.1/s.1/t.1", api.EvEnable},
	} {
		l["Do "+x.path] = func(g arguments) results {
			c, l, _ := cascade.Do(g.Model, g.Case, x.path, x.event, 9)
			return results{Case: c, Events: l}
		}
	}
	l["Do, after Create"] = func(g arguments) results {
		c, _, _ := cascade.Create(g.Model, g.Case, "p.1", "s", 9)
		c, l, _ := cascade.Do(g.Model, c, "p.1/s.2", api.EvStart, 9)
		return results{Case: c, Events: l}
	}
	l["Do, after Do"] = func(g arguments) results {
		c, _, _ := cascade.Do(g.Model, g.Case, "p.1", api.EvSuspend, 9)
		c, l, _ := cascade.Do(g.Model, c, "p.1", api.EvResume, 9)
		return results{Case: c, Events: l}
	}
	return l
}

// callsAbove are those of layers 21 and 22.
func callsAbove() map[string]func(g arguments) results {
	l := map[string]func(g arguments) results{}
	for _, e := range []api.Event{{Path: "p.1/s.1/u.1", Event: api.EvStart}, {Path: "p.1/s.1/u.1", Event: api.EvExit}} {
		l["index.Latch "+model.EventName(e.Event)] = func(g arguments) results {
			x := index.New(g.Model)
			c, paths := x.Latch(g.Case, e)
			return results{Case: c, Hooks: x.For(e), More: x.For(e), Paths: paths}
		}
	}
	l["Latch of no index"] = func(g arguments) results {
		c, paths := (*index.Index)(nil).Latch(g.Case, g.Events[0])
		return results{Case: c, Paths: paths}
	}
	for _, event := range []int{api.EvTerminate, api.EvExit} {
		l["Renew "+model.EventName(event)] = func(g arguments) results {
			c, l, _ := rules.Renew(g.Model, g.Case, []api.Event{{Path: "p.1/s.1/u.1", Event: event}, {Path: "p.1/s.1", Event: event}, {Path: "p.1/s.1/u.1", Event: event}}, 9)
			return results{Case: c, Events: l}
		}
	}
	l["Fire and Required"] = func(g arguments) results {
		for _, x := range g.Case.Insts {
			rules.Fire(g.Model, g.Case, x.Path)
			rules.Required(g.Model, g.Case, x.Path)
		}
		return results{Case: tree.Copy(g.Case)}
	}
	return l
}

// callsOfRounds are those of layers 23 and 24.
func callsOfRounds(t *testing.T) map[string]func(g arguments) results {
	l := map[string]func(g arguments) results{
		"May, Done and All": func(g arguments) results {
			for _, x := range g.Case.Insts {
				finish.May(g.Model, g.Case, x.Path)
				finish.Done(g.Model, g.Case, x.Path)
			}
			return results{Case: tree.Copy(g.Case), Paths: finish.All(g.Model, g.Case)}
		},
		"Firings": func(g arguments) results {
			return results{Case: tree.Copy(g.Case), Firings: round.Firings(g.Model, g.Case)}
		},
		"Sequence": func(g arguments) results {
			return results{Case: tree.Copy(g.Case), Firings: round.Sequence(g.Firings)}
		},
		"Endings": func(g arguments) results {
			return results{Case: tree.Copy(g.Case), Firings: round.Endings(g.Model, g.Case, g.Events)}
		},
		"Perform what is not possible": func(g arguments) results {
			c, l, _ := round.Perform(g.Model, g.Case, api.Firing{Path: "p.1/a.1", Event: api.EvOccur}, 20)
			return results{Case: c, Events: l}
		},
	}
	for k, f := range given(t).Firings {
		l["Perform "+f.Path] = func(g arguments) results {
			c, l, _ := round.Perform(g.Model, g.Case, g.Firings[k], 20)
			return results{Case: c, Events: l}
		}
	}
	l["Round that ends the case"] = func(g arguments) results {
		c, l, _ := round.Round(g.Model, g.Case, g.Events, 20)
		return results{Case: c, Events: l}
	}
	l["Round, without exits"] = func(g arguments) results {
		c, l, _ := round.Round(lasting(g.Model), g.Case, g.Events, 20)
		return results{Case: c, Events: l}
	}
	return l
}

// lasting is a model without exits at the top.
func lasting(m api.Model) api.Model {
	m.Plan.Exit, m.Plan.Kids = nil, slices.Clone(m.Plan.Kids)
	for k := range m.Plan.Kids {
		m.Plan.Kids[k].Exit = nil
	}
	return m
}

// single is one in which, besides, nothing repeats.
func single(m api.Model) api.Model {
	m = lasting(m)
	kids := slices.Clone(m.Plan.Kids[0].Kids)
	for k := range kids {
		kids[k].Repeat = ""
	}
	m.Plan.Kids[0].Kids = kids
	return m
}

// callsOfPropagations are those of layers 25 and 26.
func callsOfPropagations() map[string]func(g arguments) results {
	l := map[string]func(g arguments) results{
		"Quiet": func(g arguments) results {
			sem.Quiet(g.Model, g.Case)
			return results{Case: tree.Copy(g.Case)}
		},
		"Settle, where nothing happens": func(g arguments) results {
			c, _, _ := settle.Settle(api.Model{}, g.Case, nil, g.Order, 20)
			return results{Case: c}
		},
		"sem.Settle, where nothing happens": func(g arguments) results {
			c, _, _ := sem.Settle(api.Model{}, g.Case, nil, 20)
			return results{Case: c}
		},
	}
	for name, change := range map[string]func(api.Model) api.Model{
		" that ends the case": func(m api.Model) api.Model { return m },
		", without an end":    single,
	} {
		l["Settle"+name] = func(g arguments) results {
			c, _, _ := settle.Settle(change(g.Model), g.Case, g.Events, g.Order, 20)
			return results{Case: c}
		}
		l["sem.Settle"+name] = func(g arguments) results {
			c, _, _ := sem.Settle(change(g.Model), g.Case, g.Events, 20)
			return results{Case: c}
		}
	}
	return l
}

// callsOfRoles are those of layers 27 and 28.
func callsOfRoles() map[string]func(g arguments) results {
	return map[string]func(g arguments) results{
		"Check, Known and May": func(g arguments) results {
			roles.Check(g.Model, "t", "")
			roles.Known(g.Model, "r")
			return results{Case: tree.Copy(g.Case), Paths: roles.May(g.Model, "r")}
		},
		"Items": func(g arguments) results {
			return results{Case: tree.Copy(g.Case), Paths: planning.Items(g.Model, g.Case, "p.1/s.1")}
		},
		"Plan": func(g arguments) results {
			c, l, _ := planning.Plan(g.Model, g.Case, "p.1/s.1", "d", 20)
			return results{Case: c, Events: l}
		},
		"Plan of none": func(g arguments) results {
			planning.Plan(g.Model, g.Case, "p.1", "d", 20)
			return results{Case: tree.Copy(g.Case)}
		},
	}
}

// callsOfCommands are those of layer 29.
func callsOfCommands() map[string]func(g arguments) results {
	l := map[string]func(g arguments) results{
		"New": func(g arguments) results {
			c, _, _ := engine.New(single(g.Model), 1, g.Order, 20)
			ended, _, _ := engine.New(g.Model, 2, g.Order, 20)
			return results{Case: c, Answer: api.Answer{State: ended}}
		},
		"a command in an error": func(g arguments) results {
			engine.Do(g.Model, g.Case, api.Command{Verb: api.VerbDo, Path: "p.1/s.1/t.1", Event: api.EvManual}, g.Order, 20)
			return results{Case: tree.Copy(g.Case)}
		},
	}
	for name, k := range map[string]api.Command{
		"VerbDo":                      {Verb: api.VerbDo, Path: "p.1/s.1/u.1", Event: api.EvTerminate},
		"VerbPlan":                    {Verb: api.VerbPlan, Path: "p.1/s.1", Name: "d"},
		"VerbFile":                    {Verb: api.VerbFile, Event: api.EvCreate, Name: "f"},
		"VerbFile, a reference":       {Verb: api.VerbFile, Event: api.EvAddRef, Path: "f#2", Name: "f#1"},
		"VerbTick":                    {Verb: api.VerbTick, Int: 5},
		"VerbTick, without an effect": {Verb: api.VerbTick},
	} {
		for ends, change := range map[string]func(api.Model) api.Model{" that ends the case": func(m api.Model) api.Model { return m }, ", without an end": single} {
			l[name+ends] = func(g arguments) results {
				c, _, _ := engine.Do(change(g.Model), g.Case, k, g.Order, 20)
				return results{Case: c}
			}
		}
	}
	return l
}

// callsOfBytes are those of layer 30.
func callsOfBytes() map[string]func(g arguments) results {
	return map[string]func(g arguments) results{
		"Command": func(g arguments) results {
			b, _ := codec.Command(api.Command{Verb: api.VerbCreate, Role: "r", Name: "m"})
			return results{Case: tree.Copy(g.Case), Bytes: b}
		},
		"ReadCommand": func(g arguments) results {
			codec.ReadCommand(g.Bytes)
			return results{Case: tree.Copy(g.Case)}
		},
		"Answer": func(g arguments) results {
			return results{Case: tree.Copy(g.Case), Bytes: codec.Answer(g.Answer)}
		},
		"ReadAnswer": func(g arguments) results {
			a, _ := codec.ReadAnswer(slices.Concat(make([]byte, 4), []byte{1}, g.Bytes))
			return results{Answer: a}
		},
		"Case": func(g arguments) results { return results{Case: tree.Copy(g.Case), Bytes: codec.Case(g.Bytes, g.Case)} },
		"Case of nothing": func(g arguments) results {
			return results{Case: tree.Copy(g.Case), Bytes: codec.Case(g.Bytes, api.Case{})}
		},
		"ReadCase": func(g arguments) results {
			c, _, _ := codec.ReadCase(g.Bytes)
			return results{Case: c}
		},
		"ReadCase, with bytes behind": func(g arguments) results {
			c, rest, _ := codec.ReadCase(append(g.Bytes[:len(g.Bytes):len(g.Bytes)], 1, 2, 3))
			return results{Case: c, Bytes: rest}
		},
	}
}

// callsOfStores are those of layers 31 and 32.
func callsOfStores() map[string]func(g arguments) results {
	return map[string]func(g arguments) results{
		"repo.Deploy": func(g arguments) results {
			r := repo.New()
			r.Deploy(g.Printed)
			return results{Case: tree.Copy(g.Case), Paths: r.IDs()}
		},
		"what a repository has": func(g arguments) results {
			r, a := repo.New(), results{}
			r.Deploy(g.Printed)
			for _, x := range []*repo.Repo{r, r, r.Copy()} {
				m, _ := x.Model("m")
				b, _ := x.Document("m")
				a.Models, a.Pieces = append(a.Models, m), append(a.Pieces, b)
			}
			return a
		},
		"Create and VerbLook": func(g arguments) results {
			s, _ := store.New(20)
			s.Do(api.Command{Verb: api.VerbDeploy, Text: string(g.Printed)}, g.Order)
			s.Do(api.Command{Verb: api.VerbCreate, Name: "m"}, g.Order)
			return answered(s, g.Order)
		},
		"Decode and VerbLook": func(g arguments) results {
			s, _ := store.Decode(g.Stored)
			s.Do(api.Command{Verb: api.VerbTick, Case: 1}, g.Order)
			return answered(s, g.Order)
		},
	}
}

// answered is what a store and a copy of it answer, again and again.
func answered(s *store.Store, order []int) results {
	var a results
	for _, x := range []*store.Store{s, s, s.Copy()} {
		for _, verb := range []int{api.VerbLook, api.VerbList} {
			a.Answers = append(a.Answers, x.Do(api.Command{Verb: verb, Case: 1}, order))
		}
		a.Pieces = append(a.Pieces, x.Encode())
	}
	return a
}

// commands are those that make a case of the model, and look at it.
func commands(g arguments) [][]byte {
	var l [][]byte
	for _, k := range []api.Command{{Verb: api.VerbDeploy, Text: string(g.Printed)}, {Verb: api.VerbCreate, Name: "m"}, {Verb: api.VerbLook, Case: 1}, {Verb: api.VerbList}, {Verb: api.VerbCompact}} {
		b, _ := codec.Command(k)
		l = append(l, b)
	}
	widen(&l)
	return l
}

// callsOfServers are those of layers 33 and 34.
func callsOfServers() map[string]func(g arguments) results {
	return map[string]func(g arguments) results{
		"server.Do": func(g arguments) results {
			d, _ := vdisk.New(9999)
			s, _ := server.Open(d, 20, 0)
			l := commands(g)
			for _, b := range l {
				l = append(l, s.Do(b, g.Order), s.Image(), s.Image())
			}
			return results{Case: tree.Copy(g.Case), Pieces: l}
		},
		"world.Do": func(g arguments) results {
			w, _ := world.New(9999, 20, 0)
			l := commands(g)
			for _, b := range l {
				answer, _ := w.Do(api.Step{Kind: api.StepBytes, Bytes: b, Order: g.Order, Keeps: g.Order})
				l = append(append(l, answer), w.Told()...)
			}
			w.Do(api.Step{Kind: api.StepCrash, Keeps: g.Order})
			w.Do(api.Step{Kind: api.StepOpen})
			return results{Case: tree.Copy(g.Case), Pieces: append(append(l, w.Told()...), w.Server().Image())}
		},
	}
}

// callsOfReports are those of layers 35 and 36.
func callsOfReports() map[string]func(g arguments) results {
	return map[string]func(g arguments) results{
		"Sound and Odd": func(g arguments) results {
			audit.Odd(g.Model, g.Case)
			audit.Sound(g.Model, g.Case, 20)
			return results{Case: tree.Copy(g.Case)}
		},
		"Text and Line": func(g arguments) results {
			report.Text(g.Model, g.Case)
			report.Line(g.Case.Insts[0])
			return results{Case: tree.Copy(g.Case)}
		},
		"Work": func(g arguments) results {
			return results{Case: tree.Copy(g.Case), Commands: report.Work(g.Model, g.Case, "r"), Numbers: engine.Requests(g.Model, g.Case, "p.1/s.1", "r")}
		},
	}
}

func TestMemory(t *testing.T) {
	for name, call := range calls(t) {
		g, want := given(t), given(t)
		r := call(g)
		if !reflect.DeepEqual(g, want) || !unspoilt(&g) {
			t.Errorf("%s: an argument was modified", name)
		}
		mine, others := stretches(&r), stretches(&g)
		for _, x := range mine {
			for _, y := range others {
				if x.from < y.to && y.from < x.to {
					t.Errorf("%s: a list of the result is in memory of another list", name)
				}
			}
			others = append(others, x)
		}
		if len(mine) < 5 {
			t.Errorf("%s: nothing was held", name)
		}
	}
}
