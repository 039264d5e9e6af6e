package whole

import (
	"bytes"
	"testing"

	"dossier/api"
	"dossier/codec"
	"dossier/report"
	"dossier/server"
	"dossier/tree"
	"dossier/world"
)

// begun is a server with a case of a model with some items.
func begun(t *testing.T, items ...api.Item) (*server.Server, api.Model) {
	t.Helper()
	m := api.Model{ID: "m", Plan: api.Item{ID: "p", Kids: items}}
	s := opened(t, disk(t), 0)
	for _, k := range []api.Command{deploy(t, m), {Verb: api.VerbCreate, Name: "m"}} {
		if a := sent(t, s, k); a.Code != api.OK {
			t.Fatal(a)
		}
	}
	return s, m
}

func on(item string, event int) []api.Sentry {
	return []api.Sentry{{On: []api.OnPart{{Item: item, Event: event}}}}
}

func do(path string, event int) api.Command {
	return api.Command{Verb: api.VerbDo, Case: 1, Path: path, Event: event}
}

func wantCode(t *testing.T, s *server.Server, k api.Command, want api.Errno) {
	t.Helper()
	if a := sent(t, s, k); a.Code != want {
		t.Fatalf("%+v: %+v", k, a)
	}
}

// wantCase holds what the instances of the case are.
func wantCase(t *testing.T, s *server.Server, m api.Model, want string) {
	t.Helper()
	c := sent(t, s, api.Command{Verb: api.VerbLook, Case: 1}).State
	if got := report.Text(m, c); got != "case 1 m\n"+want {
		t.Errorf("%s, not\n%s", got, want)
	}
}

func TestExample1(t *testing.T) {
	if got := opened(t, disk(t), 0).Do(nil, nil); !bytes.Equal(got, []byte{6, 0, 0, 0, 0}) {
		t.Error(got)
	}
}

func TestExample2(t *testing.T) {
	s, m := begun(t, api.Item{ID: "t", Name: "Do it", Kind: api.ItemHuman})
	wantCase(t, s, m, "p.1 active\n  p.1/t.1 active (Do it)\n")
	wantCode(t, s, do("p.1/t.1", api.EvComplete), api.OK)
	wantCase(t, s, m, "p.1 completed\n  p.1/t.1 completed (Do it)\n")
}

func TestExample3(t *testing.T) {
	s, m := begun(t, api.Item{ID: "t", Kind: api.ItemHuman}, api.Item{ID: "u", Kind: api.ItemHuman, Entry: on("t", api.EvComplete)})
	wantCase(t, s, m, "p.1 active\n  p.1/t.1 active\n  p.1/u.1 available\n")
	wantCode(t, s, do("p.1/t.1", api.EvComplete), api.OK)
	wantCase(t, s, m, "p.1 active\n  p.1/t.1 completed\n  p.1/u.1 active\n")
}

func TestExample4(t *testing.T) {
	s, m := begun(t, api.Item{ID: "t", Kind: api.ItemHuman}, api.Item{ID: "u", Kind: api.ItemHuman, Entry: on("t", api.EvComplete), Exit: on("t", api.EvComplete)}, api.Item{ID: "v", Kind: api.ItemHuman})
	wantCode(t, s, do("p.1/t.1", api.EvComplete), api.OK)
	wantCase(t, s, m, "p.1 active\n  p.1/t.1 completed\n  p.1/u.1 terminated\n  p.1/v.1 active\n")
}

func TestExample5(t *testing.T) {
	s, m := begun(t, api.Item{ID: "a", Kind: api.ItemMilestone, Entry: []api.Sentry{{If: "1 / 0 = 1 or true"}}}, api.Item{ID: "b", Kind: api.ItemMilestone, Entry: []api.Sentry{{If: "1 / 1 = 2 or true"}}})
	wantCase(t, s, m, "p.1 active\n  p.1/a.1 available\n  p.1/b.1 completed\n")
}

func TestExample6(t *testing.T) {
	endless := api.Item{ID: "e", Kind: api.ItemMilestone, Repeat: "true", Entry: []api.Sentry{{If: "true"}}}
	s, m := begun(t, api.Item{ID: "s", Manual: "true", Kids: []api.Item{endless}})
	image := s.Image()
	wantCode(t, s, do("p.1/s.1", api.EvManual), api.ErrBudget)
	wantCase(t, s, m, "p.1 active\n  p.1/s.1 enabled\n")
	if !bytes.Equal(s.Image(), image) {
		t.Error("the store is another one")
	}
}

func TestExample7(t *testing.T) {
	s, _ := begun(t, api.Item{ID: "s", Kids: []api.Item{
		{ID: "a", Kind: api.ItemHuman}, {ID: "b", Kind: api.ItemHuman, Manual: "true"}, {ID: "c", Kind: api.ItemHuman}, {ID: "d", Kind: api.ItemHuman, Entry: on("a", api.EvFault)}, {ID: "l", Kind: api.ItemListener},
		{ID: "u", Kids: []api.Item{{ID: "v", Kind: api.ItemHuman}}},
	}})
	wantCode(t, s, do("p.1/s.1/c.1", api.EvFault), api.OK)
	wantCode(t, s, do("p.1/s.1/u.1", api.EvSuspend), api.OK)
	look := api.Command{Verb: api.VerbLook, Case: 1}
	before := sent(t, s, look).State
	wantCode(t, s, do("p.1/s.1", api.EvSuspend), api.OK)
	if between := sent(t, s, look).State; tree.Same(before, between) {
		t.Error("nothing was suspended")
	}
	wantCode(t, s, do("p.1/s.1", api.EvResume), api.OK)
	if after := sent(t, s, look).State; !tree.Same(before, after) {
		t.Errorf("%+v, not %+v", after, before)
	}
}

// TestExample8 has the disk stop at each change of a command, with any prefix of what was not synced.
func TestExample8(t *testing.T) {
	one := api.Item{ID: "t", Kind: api.ItemHuman}
	s, m := begun(t, one)
	before := s.Image()
	wantCode(t, s, do("p.1/t.1", api.EvComplete), api.OK)
	after, met := s.Image(), [2]int{}
	for fuse := range 4 {
		for keep := range 80 {
			w, err := world.New(api.MaxRoom, most, 0)
			steps := []api.Step{{Kind: api.StepBytes, Bytes: coded(t, deploy(t, m))}, {Kind: api.StepBytes, Bytes: coded(t, api.Command{Verb: api.VerbCreate, Name: "m"})}, {Kind: api.StepFuse, N: fuse}, {Kind: api.StepBytes, Bytes: coded(t, do("p.1/t.1", api.EvComplete))}, {Kind: api.StepCrash, Keeps: []int{keep}}, {Kind: api.StepOpen}}
			for _, step := range steps {
				if err == api.OK {
					_, err = w.Do(step)
				}
			}
			if err != api.OK {
				t.Fatal(err)
			}
			image := w.Server().Image()
			switch {
			case bytes.Equal(image, after):
				met[1]++
			case bytes.Equal(image, before) && len(w.Told()) == 2:
				met[0]++
			default:
				t.Fatal("half of the command is executed, or one that was told is not", fuse, keep)
			}
		}
	}
	if met[0] == 0 || met[1] == 0 {
		t.Error(met)
	}
}

func coded(t *testing.T, k api.Command) []byte {
	t.Helper()
	b, err := codec.Command(k)
	if err != api.OK {
		t.Fatal(err)
	}
	return b
}
