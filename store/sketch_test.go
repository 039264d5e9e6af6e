package store_test

import (
	"cmp"
	"math/rand"
	"slices"
	"strconv"
	"strings"
	"testing"

	"dossier/api"
	"dossier/bind"
	"dossier/engine"
	"dossier/show"
	"dossier/store"
	"dossier/tree"
	"dossier/value"
)

// A ledger defines what a store answers: it has all commands that were answered OK, and makes a case anew from them each time.
type ledger struct {
	most   int
	models []api.Model // in the order of their deployment
	done   []api.Command
}

// created are the models that cases were made of, in order.
func (l *ledger) created() []string {
	var names []string
	for _, k := range l.done {
		if k.Verb == api.VerbCreate {
			names = append(names, k.Name)
		}
	}
	return names
}

// state is the case with an ID that there is.
func (l *ledger) state(id int) api.Case {
	m, _ := l.model(l.created()[id-1])
	c, _, _ := engine.New(m, id, nil, l.most)
	for _, k := range l.done {
		if k.Case == id && k.Verb >= api.VerbDo {
			c, _, _ = engine.Do(m, c, k, nil, l.most)
		}
	}
	return c
}

func (l *ledger) model(id string) (api.Model, bool) {
	for _, m := range l.models {
		if m.ID == id {
			return m, true
		}
	}
	return api.Model{}, false
}

func when(is bool, err api.Errno) api.Errno {
	if is {
		return err
	}
	return api.OK
}

// do is what a command is answered.
func (l *ledger) do(k api.Command) (a api.Answer) {
	switch k.Verb {
	case api.VerbDeploy:
		m, at, err := bind.Read([]byte(k.Text))
		if a.Code, a.Offset = err, at; err == api.OK {
			_, wrong := show.Print(m)
			_, known := l.model(m.ID)
			a.Names = []string{m.ID}
			a.Code = cmp.Or(wrong, when(known, api.ErrKnown), when(len(l.models) == api.MaxModels, api.ErrFull))
		}
	case api.VerbCreate:
		m, is := l.model(k.Name)
		a.Case = len(l.created()) + 1
		_, _, wrong := engine.New(m, a.Case, nil, l.most)
		a.Code = cmp.Or(when(!is, api.ErrNone), when(k.Role != "" && !slices.Contains(m.Roles, k.Role), api.ErrRole), when(a.Case > api.MaxCases, api.ErrFull), wrong)
	case api.VerbDo, api.VerbPlan, api.VerbFile, api.VerbTick, api.VerbLook:
		if k.Case < 1 || k.Case > len(l.created()) {
			return api.Answer{Code: api.ErrNone}
		}
		c := l.state(k.Case)
		if k.Verb == api.VerbLook {
			return api.Answer{State: c}
		}
		m, _ := l.model(c.Model)
		_, _, a.Code = engine.Do(m, c, k, nil, l.most)
	case api.VerbList:
		return api.Answer{Names: l.names()}
	case api.VerbCompact:
		return a
	default:
		a.Code = api.ErrVerb
	}
	if a.Code != api.OK {
		return api.Answer{Code: a.Code, Offset: a.Offset}
	}
	l.done = append(l.done, k)
	if k.Verb == api.VerbDeploy {
		m, _, _ := bind.Read([]byte(k.Text))
		l.models = append(l.models, m)
	}
	return a
}

func (l *ledger) names() []string {
	var names []string
	for _, m := range l.models {
		names = append(names, m.ID)
	}
	for k, name := range l.created() {
		names = append(names, strconv.Itoa(k+1)+":"+name)
	}
	return names
}

func (l *ledger) bytes() []byte {
	var documents []string
	for _, m := range l.models {
		documents = append(documents, document(m))
	}
	var cases []api.Case
	for k := range l.created() {
		cases = append(cases, l.state(k+1))
	}
	return pictured(l.most, documents, cases).bytes()
}

func pick[T any](r *rand.Rand, l ...T) T { return l[r.Intn(len(l))] }

// someCommand is one that often can be executed.
func someCommand(r *rand.Rand, l *ledger) api.Command {
	cases := len(l.created())
	verb := pick(r, 1, 2, 3, 3, 3, 3, 3, 3, 3, 4, 4, 4, 5, 5, 5, 5, 6, 6, 7, 8, 9, r.Intn(12)-1)
	if len(l.models) == 0 || cases == 0 && r.Intn(4) > 0 {
		verb = pick(r, 1, 2)
	}
	switch verb {
	case api.VerbDeploy:
		return deploy(someText(r))
	case api.VerbCreate:
		return create(pick(r, "", "", "", "boss", "stranger"), pick(r, append(l.models, small("none"))...).ID)
	}
	k := api.Command{Verb: verb, Case: 1 + r.Intn(max(1, cases)), Role: pick(r, "", "", "", "boss", "boss", "clerk", "clerk", "stranger")}
	if r.Intn(20) == 0 {
		k.Case = pick(r, 0, cases+1)
	} else if verb >= api.VerbDo && verb <= api.VerbTick && cases > 0 {
		return someDeed(r, l.state(k.Case), k)
	}
	return k
}

// someDeed completes a command for a case by its verb.
func someDeed(r *rand.Rand, c api.Case, k api.Command) api.Command {
	x := pick(r, c.Insts...)
	switch k.Verb {
	case api.VerbDo:
		k.Path, k.Event = x.Path, pick(r, api.EvComplete, api.EvFault, api.EvSuspend, api.EvTerminate)
		switch {
		case r.Intn(8) == 0:
			k.Path, k.Event = pick(r, "p.1", "p.2", x.Path), r.Intn(30)
		case x.State == api.Available:
			k.Event = api.EvOccur
		case x.State == api.Enabled:
			k.Event = api.EvManual
		case x.State == api.Suspended:
			k.Event = api.EvResume
		case tree.Up(x.Path) == "":
			k.Event = pick(r, api.EvSuspend, api.EvComplete)
		}
	case api.VerbPlan:
		if s, _ := tree.Find(c, "p.1/s.1"); s.State == api.Enabled {
			return do(k.Case, "", s.Path, api.EvManual)
		}
		k.Role, k.Path, k.Name = pick(r, k.Role, "boss"), pick(r, x.Path, "p.1/s.1", "p.1/s.1", "p.1/s.1"), pick(r, "x", "x", "x", "y")
	case api.VerbTick:
		k.Int = pick(r, -1, 0, 1, 3, 5, api.MaxTick, api.MaxTick+1)
	case api.VerbFile:
		k.Event, k.Name = api.EvCreate, pick(r, "order", "order", "order", "none")
		if len(c.Docs) > 0 && r.Intn(3) > 0 {
			d := pick(r, c.Docs...)
			k.Event, k.Path, k.Name = pick(r, api.EvUpdate, api.EvReplace, api.EvDelete, api.EvAddChild, api.EvAddChild, api.EvAddChild, api.EvAddRef, api.EvCutRef), d.Path, ""
			switch k.Event {
			case api.EvAddChild:
				k.Name = "total"
			case api.EvAddRef, api.EvCutRef:
				k.Name = pick(r, c.Docs...).Path
			}
		}
		if strings.Contains(k.Path+k.Name, "total") {
			k.Value = pick(r, value.Int(3), value.Int(9), value.Text("x"))
		}
		k.Role = pick(r, k.Role, "")
	}
	return k
}

func someText(r *rand.Rand) string {
	m := office()
	if r.Intn(6) == 0 {
		m = pick(r, small(""), endless())
	}
	m.ID = pick(r, "a", "b", "c", "office", "m1", "m2", "m3", "m4", "m5", "m6", "m7", "m8", "m9")
	s := document(m)
	return pick(r, s, s, s, s+"\n", s[:r.Intn(len(s))], "<x/>"+s)
}

// TestP32_1Random holds random commands against the definition, and P32.3 and P32.4 with them.
func TestP32_1Random(t *testing.T) {
	r := rand.New(rand.NewSource(32))
	met, fine := map[api.Errno]int{}, map[int]int{}
	for range 100 {
		l := &ledger{most: pick(r, 5, 8, 9, 12, 12, 30, 30)}
		one, err := store.New(l.most)
		if err != api.OK {
			t.Fatal(err)
		}
		other := one.Copy()
		for range 20 + r.Intn(60) {
			k := someCommand(r, l)
			before := one.Encode()
			want := l.do(k)
			got, again := one.Do(k, nil), other.Do(k, []int{r.Intn(9) - 4, r.Intn(9), r.Intn(9)})
			if !same(got, want) || !same(again, want) {
				t.Fatalf("%v: %v and %v, not %v", k, got, again, want)
			}
			after := one.Encode()
			if (got.Code != api.OK || !store.Changes(k.Verb)) && !slices.Equal(after, before) || !slices.Equal(other.Encode(), after) {
				t.Fatalf("%v: the stores differ", k)
			}
			if met[want.Code]++; want.Code == api.OK {
				fine[k.Verb]++
			}
			switch r.Intn(4) {
			case 0:
				other = one.Copy()
			case 1:
				if other, err = store.Decode(after); err != api.OK || other.Most() != l.most {
					t.Fatal(k, err)
				}
			}
		}
		if !slices.Equal(one.Encode(), l.bytes()) {
			t.Fatal("the bytes are others")
		}
	}
	for _, err := range []api.Errno{api.ErrNest, api.ErrKnown, api.ErrNone, api.ErrRole, api.ErrBudget, api.ErrVerb, api.ErrState, api.ErrNeeded, api.ErrArg, api.ErrKind, api.ErrMulti} {
		if met[err] < 3 {
			t.Errorf("%v: only %d times", err, met[err])
		}
	}
	for verb := api.VerbDeploy; verb <= api.VerbCompact; verb++ {
		if fine[verb] < 20 {
			t.Errorf("verb %d: only %d times", verb, fine[verb])
		}
	}
}

// TestP32_3Rest holds that a store that was read answers all that follows as the original does, also when both are full.
func TestP32_3Rest(t *testing.T) {
	r := rand.New(rand.NewSource(323))
	for range 12 {
		l := &ledger{most: 12}
		one, _ := store.New(12)
		for k := range api.MaxModels {
			m := office()
			m.ID = "m" + strconv.Itoa((7*k+3)%11)
			l.do(deploy(document(m)))
			one.Do(deploy(document(m)), nil)
			for range 2 {
				l.do(create("", m.ID))
				one.Do(create("", m.ID), nil)
			}
		}
		other, err := store.Decode(one.Encode())
		if err != api.OK {
			t.Fatal(err)
		}
		for range 60 {
			k := someDeed(r, stateOf(t, one, 1+r.Intn(20)), api.Command{Verb: 3 + r.Intn(4), Case: 1 + r.Intn(20), Role: pick(r, "", "clerk", "boss")})
			if a, b := one.Do(k, []int{1}), other.Do(k, []int{5, 2}); !same(a, b) {
				t.Fatal(k, a, b)
			}
		}
		for _, k := range []api.Command{deploy(document(small("m"))), create("", "m3"), create("", "none"), {Verb: api.VerbList}, look(20), look(21)} {
			if a, b := one.Do(k, nil), other.Do(k, nil); !same(a, b) {
				t.Fatal(k, a, b)
			}
		}
		if !slices.Equal(one.Encode(), other.Encode()) {
			t.Fatal("the stores differ")
		}
	}
}

// TestP32_4Orders holds that whichever work is done first, the cases are the same.
func TestP32_4Orders(t *testing.T) {
	on := func(item string) []api.Sentry {
		return []api.Sentry{{On: []api.OnPart{{Item: item, Event: api.EvComplete}}}}
	}
	m := api.Model{ID: "m", Plan: api.Item{ID: "p", Kids: []api.Item{{ID: "a", Kind: api.ItemHuman}, {ID: "l", Kind: api.ItemListener}}}}
	for k := range 6 {
		m.Plan.Kids = append(m.Plan.Kids, api.Item{ID: "b" + strconv.Itoa(k), Kind: api.ItemHuman, Free: true, Entry: on("a"), Repeat: "number(p, active) = 1"})
		m.Plan.Kids = append(m.Plan.Kids, api.Item{ID: "c" + strconv.Itoa(k), Kind: api.ItemStage, Entry: on("b" + strconv.Itoa(5-k)), Exit: on("b" + strconv.Itoa(k)), Kids: []api.Item{{ID: "d" + strconv.Itoa(k), Kind: api.ItemHuman}}})
	}
	begin := []api.Command{deploy(document(m)), create("", "m"), create("", "m"), do(1, "", "p.1/a.1", api.EvComplete), tick(2, 3)}
	want := stored(t, 100, begin...)
	if c := stateOf(t, want, 1); len(c.Insts) < 20 || tree.Same(c, stateOf(t, want, 2)) {
		t.Fatal(c)
	}
	r := rand.New(rand.NewSource(324))
	for range 50 {
		s, _ := store.New(100)
		for _, k := range begin {
			order := make([]int, r.Intn(20))
			for n := range order {
				order[n] = r.Intn(1<<20) - 1<<19
			}
			if a := s.Do(k, order); a.Code != api.OK {
				t.Fatal(k, a)
			}
		}
		if !slices.Equal(s.Encode(), want.Encode()) {
			t.Fatal("the order makes a difference")
		}
	}
}
