package report_test

import (
	"math/rand"
	"slices"
	"testing"

	"dossier/api"
	"dossier/engine"
	"dossier/model"
	"dossier/report"
)

func pick[T any](r *rand.Rand, l ...T) T { return l[r.Intn(len(l))] }

// refused reports whether a command on a case does not come as far as to a change.
func refused(m api.Model, c api.Case, k api.Command) bool {
	_, _, err := engine.Do(m, c, k, nil, api.MaxInst)
	return err != api.OK && err != api.ErrBudget
}

// possible are the commands that the engine does not refuse, in the order of the chapter.
func possible(m api.Model, c api.Case, role string) []api.Command {
	var l []api.Command
	for _, x := range c.Insts {
		for event := -1; event <= api.EvCutRef+1; event++ {
			l = append(l, api.Command{Verb: api.VerbDo, Case: c.ID, Role: role, Path: x.Path, Event: event})
		}
		i, _ := model.Find(m, x.Item)
		for _, d := range i.Table {
			l = append(l, api.Command{Verb: api.VerbPlan, Case: c.ID, Role: role, Path: x.Path, Name: d.ID})
		}
	}
	return slices.DeleteFunc(l, func(k api.Command) bool { return refused(m, c, k) })
}

// walked calls hold for the cases that random work leads to.
func walked(t *testing.T, seed int64, times int, hold func(r *rand.Rand, m api.Model, c api.Case, role string)) {
	t.Helper()
	r := rand.New(rand.NewSource(seed))
	for range times {
		m := office()
		c, _, err := engine.New(m, 1+r.Intn(20), nil, api.MaxInst)
		for range 25 {
			if err != api.OK {
				t.Fatal(err)
			}
			role := pick(r, "", "boss", "boss", "clerk", "clerk")
			hold(r, m, c, pick(r, role, role, role, "nobody"))
			if t.Failed() {
				t.Fatal(report.Text(m, c))
			}
			k := pick(r, append(report.Work(m, c, role), api.Command{Verb: api.VerbTick, Int: 1})...)
			if k.Path == "p.1" && k.Event != api.EvSuspend && k.Event != api.EvResume && r.Intn(4) > 0 {
				continue // what ends the case is rare enough by itself
			}
			c, _, err = engine.Do(m, c, k, nil, api.MaxInst)
		}
	}
}

// TestP36_2Sketch holds work against what the engine does not refuse.
func TestP36_2Sketch(t *testing.T) {
	met := map[int]int{}
	walked(t, 362, 12, func(r *rand.Rand, m api.Model, c api.Case, role string) {
		got, want := report.Work(m, c, role), possible(m, c, role)
		if !slices.Equal(got, want) {
			t.Errorf("%q: %+v, not %+v", role, got, want)
		}
		for _, k := range got {
			met[k.Verb*100+k.Event]++
		}
	})
	for _, n := range []int{300 + api.EvDisable, 300 + api.EvReenable, 300 + api.EvManual, 300 + api.EvComplete, 300 + api.EvFault, 300 + api.EvReactivate, 300 + api.EvSuspend, 300 + api.EvResume, 300 + api.EvTerminate, 300 + api.EvOccur, 300 + api.EvClose, 400} {
		if met[n] < 5 {
			t.Error(n, met)
		}
	}
}

// TestP36_3Succeeds holds that all work can be done, as long as there are not too many instances.
func TestP36_3Succeeds(t *testing.T) {
	done, over := 0, 0
	walked(t, 363, 40, func(r *rand.Rand, m api.Model, c api.Case, role string) {
		for _, k := range report.Work(m, c, role) {
			next, _, err := engine.Do(m, c, k, nil, api.MaxInst)
			if err != api.OK {
				t.Errorf("%+v: %d", k, err)
				continue
			}
			most := len(c.Insts) + r.Intn(3)
			if len(next.Insts) > most {
				over++
			} else {
				done++
			}
			if _, _, err := engine.Do(m, c, k, nil, most); (err == api.ErrBudget) != (len(next.Insts) > most) || err != api.OK && err != api.ErrBudget {
				t.Errorf("%+v with %d instances of %d: %d", k, len(next.Insts), most, err)
			}
		}
	})
	if done < 1000 || over < 300 {
		t.Error(done, over)
	}
}
