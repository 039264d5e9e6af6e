// Package whole holds promises of the whole that need its last layers, and the document's examples of the whole, by servers.
package whole

import (
	"bytes"
	"math/rand"
	"testing"

	"dossier/api"
	"dossier/audit"
	"dossier/codec"
	"dossier/engine"
	"dossier/report"
	"dossier/sem"
	"dossier/server"
	"dossier/show"
	"dossier/tree"
	"dossier/vdisk"
)

const most = 60

func opened(t *testing.T, d *vdisk.Disk, every int) *server.Server {
	t.Helper()
	s, err := server.Open(d, most, every)
	if err != api.OK {
		t.Fatal(err)
	}
	return s
}

func disk(t *testing.T) *vdisk.Disk {
	t.Helper()
	d, err := vdisk.New(api.MaxRoom)
	if err != api.OK {
		t.Fatal(err)
	}
	return d
}

// sent is what a server answers to a command.
func sent(t *testing.T, s *server.Server, k api.Command, order ...int) api.Answer {
	t.Helper()
	b, err := codec.Command(k)
	if err != api.OK {
		t.Fatalf("%+v: %d", k, err)
	}
	a, err := codec.ReadAnswer(s.Do(b, order))
	if err != api.OK {
		t.Fatalf("%+v: %d", k, err)
	}
	return a
}

func deploy(t *testing.T, m api.Model) api.Command {
	t.Helper()
	b, err := show.Print(m)
	if err != api.OK {
		t.Fatal(err, m)
	}
	return api.Command{Verb: api.VerbDeploy, Text: string(b)}
}

// A pair are two servers that get the same commands, each in another order of the work; one of them takes snapshots and is opened again and again.
type pair struct {
	one, other *server.Server
	disk       *vdisk.Disk // of the other one
	every      int
}

func paired(t *testing.T, every int) *pair {
	t.Helper()
	d := disk(t)
	return &pair{one: opened(t, disk(t), 0), other: opened(t, d, every), disk: d, every: every}
}

func (p *pair) do(t *testing.T, r *rand.Rand, k api.Command) api.Answer {
	t.Helper()
	switch r.Intn(6) {
	case 0:
		if err := p.disk.Crash(nil); err != api.OK {
			t.Fatal(err)
		}
		p.other = opened(t, p.disk, p.every)
	case 1:
		if a := sent(t, p.other, api.Command{Verb: api.VerbCompact}); a.Code != api.OK {
			t.Fatal(a)
		}
	}
	a := sent(t, p.one, k)
	b := sent(t, p.other, k, r.Intn(99), -r.Intn(99), r.Intn(99))
	if !bytes.Equal(codec.Answer(a), codec.Answer(b)) || !bytes.Equal(p.one.Image(), p.other.Image()) {
		t.Fatalf("%+v: %+v, %+v", k, a, b)
	}
	return a
}

// wantWork holds that all that a role is told it can do succeeds.
func wantWork(t *testing.T, m api.Model, c api.Case, role string) (done, over int) {
	t.Helper()
	for _, k := range report.Work(m, c, role) {
		next, g, err := engine.Do(m, c, k, nil, most)
		if err != api.OK && err != api.ErrBudget {
			t.Fatalf("%+v: %d in\n%s", k, err, report.Text(m, c))
		}
		if err == api.ErrBudget {
			over++
			continue
		}
		done++
		if g.Moves > 8*most || g.Rounds > g.Moves+1 || g.Rounds < 1 {
			t.Fatalf("%+v: %+v", k, g)
		}
		if !audit.Sound(m, next, most) || !sem.Quiet(m, next) {
			t.Fatalf("%+v leads to\n%s", k, report.Text(m, next))
		}
	}
	return done, over
}

// TestP6 holds for random models and the work in their cases: these are sound and quiet, what a role is told it can do it can, and neither snapshots nor orders make a difference. P2 and P3 are held besides.
func TestP6(t *testing.T) {
	r := rand.New(rand.NewSource(6))
	cases, done, over, verbs := 0, 0, 0, map[int]int{}
	for range 100 {
		m, p := made(r), paired(t, 1+r.Intn(5))
		if a := p.do(t, r, deploy(t, m)); a.Code != api.OK {
			t.Fatal(a, m)
		}
		if a := p.do(t, r, api.Command{Verb: api.VerbCreate, Name: "m"}); a.Code != api.OK {
			if a.Code != api.ErrBudget {
				t.Fatal(a, m)
			}
			continue
		}
		cases++
		for range 20 {
			c := p.do(t, r, api.Command{Verb: api.VerbLook, Case: 1}).State
			if !audit.Sound(m, c, most) || !sem.Quiet(m, c) {
				path, _ := audit.Odd(m, c)
				t.Fatalf("%q is odd, or something happens by itself:\n%s", path, report.Text(m, c))
			}
			some, many := wantWork(t, m, c, pick(r, "", "r1", "r2"))
			done, over = done+some, over+many
			k := someCommand(r, m, c)
			if a := p.do(t, r, k); a.Code == api.OK {
				verbs[k.Verb]++
			} else if next := p.do(t, r, api.Command{Verb: api.VerbLook, Case: 1}).State; !tree.Same(c, next) {
				t.Fatalf("%+v is refused, but the case is another one", k)
			}
		}
	}
	if cases < 50 || done < 5000 || over < 20 || verbs[api.VerbDo] < 300 || verbs[api.VerbPlan] < 20 || verbs[api.VerbFile] < 100 || verbs[api.VerbTick] < 50 {
		t.Error(cases, done, over, verbs)
	}
}
