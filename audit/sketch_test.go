package audit_test

import (
	"math/rand"
	"regexp"
	"slices"
	"strings"
	"testing"

	"dossier/api"
	"dossier/audit"
	"dossier/casefile"
	"dossier/engine"
	"dossier/model"
	"dossier/planning"
	"dossier/states"
	"dossier/tree"
	"dossier/value"
)

func pick[T any](r *rand.Rand, l ...T) T { return l[r.Intn(len(l))] }

var pathForm = regexp.MustCompile(`^([a-z]+\.[1-9][0-9]*/)*([a-z]+)\.([1-9][0-9]*)$`)

// consistent is what the chapter says of an instance, of a model with names of small letters.
func consistent(m api.Model, c api.Case, x api.Inst) bool {
	found := pathForm.FindStringSubmatch(x.Path)
	i, is := model.Find(m, x.Item)
	if found == nil || found[2] != x.Item || !is {
		return false
	}
	up, below := strings.CutSuffix(x.Path, "/"+found[2]+"."+found[3])
	if !below && (x.Item != m.Plan.ID || found[3] != "1") {
		return false
	}
	at := slices.IndexFunc(c.Insts, func(x api.Inst) bool { return x.Path == up })
	if below && (at < 0 || !inside(m, c.Insts[at], x)) {
		return false
	}
	sentries := append(i.Entry, i.Exit...)
	if !states.States(i.Kind, !below, x.State) || len(x.Latches) != len(sentries) {
		return false
	}
	for k, s := range sentries {
		if x.Latches[k] < 0 || x.Latches[k] > 1<<len(s.On)-1 {
			return false
		}
	}
	var before []int
	if before = []int{0}; x.State == api.Suspended {
		before = []int{1, 2, 3, 4, 5, 6, 7, 8, 11, 12, 13, 14, 15, 16, 17, 18}
	}
	return slices.Contains(before, x.Before) && (x.Due == 0 || i.Kind == api.ItemTimer)
}

// inside is what it says of an instance and the one around it.
func inside(m api.Model, up, x api.Inst) bool {
	s, _ := model.Find(m, up.Item)
	of := func(i api.Item) bool { return i.ID == x.Item }
	if !slices.ContainsFunc(s.Kids, of) && !slices.ContainsFunc(s.Table, of) {
		return false
	}
	switch up.State {
	case api.Completed, api.Terminated, api.Closed:
		return x.State == api.Completed || x.State == api.Terminated || x.State == api.Closed
	case api.Suspended:
		return x.State != api.Active
	}
	return true
}

// spoilt is an instance with some other field.
func spoilt(r *rand.Rand, x api.Inst, others []api.Inst) api.Inst {
	x.Latches = slices.Clone(x.Latches)
	switch r.Intn(9) {
	case 0:
		x.State = r.Intn(11)
	case 1:
		x.State, x.Before = pick(r, 6, 6, 6, 4), r.Intn(21)-1
	case 2:
		x.Item = pick(r, others...).Item
	case 3:
		other := pick(r, others...)
		x.Path, x.Item = other.Path, other.Item
	case 4:
		x.Path = pick(r, x.Path+"0", x.Path+"1", x.Path+"/", "/"+x.Path, strings.Replace(x.Path, "1", "2", 1), x.Path+"/"+x.Item+".1", strings.Replace(x.Path, "s.1", "s.01", 1), strings.TrimPrefix(x.Path, "p.1/"))
	case 5:
		x.Due = r.Intn(3) - 1
	case 6:
		x.Latches = append(x.Latches, 0)[r.Intn(2):]
	case 7:
		if len(x.Latches) > 0 {
			x.Latches[r.Intn(len(x.Latches))] = r.Intn(10) - 1
		}
	case 8:
		x.State = pick(r, api.Completed, api.Terminated, api.Failed)
	}
	return x
}

// ordered reports whether the paths of a case are what becomes of them if they are sorted, and each of them is taken once.
func ordered(c api.Case) bool {
	var l []string
	for _, x := range c.Insts {
		l = append(l, x.Path)
	}
	return slices.Equal(l, slices.Compact(slices.SortedFunc(slices.Values(l), tree.Order)))
}

// TestP35_1Sketch holds cases of a few faults against what the chapter says, instance by instance.
func TestP35_1Sketch(t *testing.T) {
	r, odd := rand.New(rand.NewSource(351)), map[bool]int{}
	m := office()
	for range 15000 {
		c := cased(fine)
		for range r.Intn(4) {
			at := r.Intn(len(c.Insts))
			c.Insts[at] = spoilt(r, c.Insts[at], c.Insts)
		}
		switch r.Intn(6) {
		case 0:
			at := r.Intn(len(c.Insts))
			c.Insts = slices.Delete(c.Insts, at, at+1)
		case 1:
			r.Shuffle(len(c.Insts), func(i, j int) { c.Insts[i], c.Insts[j] = c.Insts[j], c.Insts[i] })
		}
		at := slices.IndexFunc(c.Insts, func(x api.Inst) bool { return !consistent(m, c, x) })
		path, is := audit.Odd(m, c)
		if is != (at >= 0) || is && path != c.Insts[at].Path {
			t.Fatalf("%q, %t, not that at %d: %+v", path, is, at, c.Insts)
		}
		if odd[is]++; audit.Sound(m, c, 16) != (!is && ordered(c)) {
			t.Fatalf("ordered: %t, odd: %t: %+v", ordered(c), is, c.Insts)
		}
	}
	if odd[true] < 4000 || odd[false] < 4000 {
		t.Error(odd)
	}
}

// someCommand is one that often can be done.
func someCommand(r *rand.Rand, m api.Model, c api.Case) api.Command {
	x := pick(r, c.Insts...)
	k := api.Command{Verb: pick(r, 3, 3, 3, 4, 5, 6), Path: x.Path}
	switch k.Verb {
	case api.VerbDo:
		i, _ := model.Find(m, x.Item)
		k.Event = pick(r, append(states.Events(i.Kind, x.Path == "p.1", x.State), r.Intn(19))...)
	case api.VerbPlan:
		k.Name = pick(r, append(planning.Items(m, c, x.Path), "x", "d")...)
	case api.VerbFile:
		k.Event, k.Path, k.Name = api.EvCreate, "", "order"
		if len(c.Docs) > 0 && r.Intn(2) == 0 {
			k.Event, k.Path, k.Name = pick(r, api.EvDelete, api.EvUpdate, api.EvAddChild), pick(r, c.Docs...).Path, ""
		}
		if k.Event == api.EvAddChild {
			k.Name, k.Value = "total", value.Int(1)
		}
	case api.VerbTick:
		k.Int = pick(r, 0, 1, 5, api.MaxTick)
	}
	return k
}

// loose is the office without an exit of the plan.
func loose() api.Model {
	m := office()
	m.Plan.Exit = nil
	return m
}

// TestP35_2Walk holds that commands lead from sound cases to sound ones, also from such as only somebody's hands can have made.
func TestP35_2Walk(t *testing.T) {
	r, done, made := rand.New(rand.NewSource(352)), map[int]int{}, 0
	for range 500 {
		m := pick(r, office(), loose())
		c, _, err := engine.New(m, 1, nil, 40)
		if err != api.OK || !audit.Sound(m, c, 40) {
			t.Fatal("no new case", err)
		}
		for range 40 {
			d := tree.Copy(c)
			if at := r.Intn(len(d.Insts)); r.Intn(2) == 0 {
				d.Insts[at] = spoilt(r, d.Insts[at], d.Insts)
			}
			if r.Intn(9) == 0 {
				d.Clock = 1<<61 - r.Intn(9)
			}
			if audit.Sound(m, d, 40) && !tree.Same(c, d) {
				c = d
				made++
			}
			k := someCommand(r, m, c)
			next, _, err := engine.Do(m, c, k, nil, 40)
			if err != api.OK {
				continue
			}
			if done[k.Verb]++; !audit.Sound(m, next, 40) {
				path, _ := audit.Odd(m, next)
				t.Fatalf("%q is odd: %+v leads from %+v to %+v", path, k, c, next)
			}
			c = next
		}
	}
	if done[api.VerbDo] < 1000 || done[api.VerbPlan] < 100 || done[api.VerbFile] < 300 || done[api.VerbTick] < 300 || made < 1000 {
		t.Error(done, made)
	}
}

// TestP35_2File holds that the case file of a case that a command leads to is valid.
func TestP35_2File(t *testing.T) {
	c, _, err := engine.New(loose(), 1, nil, 40)
	for n := range api.MaxFile + 1 {
		if err != api.OK || !audit.Sound(loose(), c, 40) || !casefile.Can(loose().Files, c.Docs) || len(c.Docs) != n {
			t.Fatal(err, len(c.Docs))
		}
		if n < api.MaxFile {
			c, _, err = engine.Do(loose(), c, api.Command{Verb: api.VerbFile, Event: api.EvCreate, Name: "order"}, nil, 40)
		}
	}
}
