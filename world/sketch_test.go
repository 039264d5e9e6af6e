package world_test

import (
	"bytes"
	"math/rand"
	"slices"
	"testing"

	"dossier/api"
	"dossier/codec"
	"dossier/world"
)

func pick[T any](r *rand.Rand, l ...T) T { return l[r.Intn(len(l))] }

// someBytes are those of a command that often can be executed, or nearly those.
func someBytes(r *rand.Rand) []byte {
	id := 1 + r.Intn(3)
	b := pick(r, deploy(desk()), create("desk"), create("desk"), note(id, r.Intn(10)), tick(id, r.Intn(4)), plan(id, "p.1", "x"), list(), look(id), look(id), compact())
	if r.Intn(2) == 0 {
		path := pick(r, "p.1", "p.1/t.1", "p.1/a.1", "p.1/c.1", "p.1/d.1", "p.1/s.1", "p.1/s.1/v.1", "p.1/x.1")
		b = do(id, path, pick(r, api.EvComplete, api.EvComplete, api.EvComplete, api.EvSuspend, api.EvResume, api.EvTerminate))
	}
	switch r.Intn(15) {
	case 0:
		return b[:r.Intn(len(b))]
	case 1:
		b[r.Intn(len(b))] ^= 1 << r.Intn(8)
	}
	return b
}

func someNumbers(r *rand.Rand) []int {
	l := make([]int, r.Intn(8))
	for k := range l {
		l[k] = pick(r, r.Intn(30)-1, r.Intn(1<<20)-1<<19)
	}
	return l
}

// someScript is one with crashes behind which the server mostly is started again.
func someScript(r *rand.Rand) []api.Step {
	l := []api.Step{{Kind: api.StepBytes, Bytes: deploy(desk())}, {Kind: api.StepBytes, Bytes: create("desk")}}
	for range 60 {
		switch r.Intn(20) {
		case 0, 1, 2:
			l = append(l, fuse(r.Intn(6)))
		case 3, 4:
			if r.Intn(4) == 0 {
				l = append(l, fuse(r.Intn(3)))
			}
			l = append(l, api.Step{Kind: api.StepCrash, Keeps: pick(r, someNumbers(r), []int{9999, 9999})}, start)
		case 5:
			l = append(l, room(pick(r, 0, 3000, 3300, 4000, 100000, 100000, 100000, -1)))
		case 6:
			l = append(l, api.Step{Kind: r.Intn(8), N: r.Intn(20000), Keeps: someNumbers(r)})
		default:
			l = append(l, api.Step{Kind: api.StepBytes, Bytes: someBytes(r), Order: someNumbers(r)})
		}
	}
	return l
}

// A result is all there is to see behind a step.
type result struct {
	answer, image, file []byte
	err                 api.Errno
	told                [][]byte
	running             bool
}

func results(t *testing.T, w *world.World, script []api.Step) []result {
	t.Helper()
	var l []result
	for _, s := range script {
		var x result
		x.answer, x.err = w.Do(s)
		x.told, x.running, x.image = w.Told(), w.Server() != nil, w.Server().Image()
		for _, name := range w.Disk().Names() {
			b, _ := w.Disk().Read(name)
			x.file = slices.Concat(x.file, []byte(name), b)
		}
		l = append(l, x)
	}
	return l
}

func (x result) same(y result) bool {
	return bytes.Equal(x.answer, y.answer) && bytes.Equal(x.image, y.image) && bytes.Equal(x.file, y.file) && x.err == y.err && x.running == y.running && slices.EqualFunc(x.told, y.told, bytes.Equal)
}

// TestP34_4Twice holds that a script has the same results again, in other orders of the work, too.
func TestP34_4Twice(t *testing.T) {
	r := rand.New(rand.NewSource(34))
	worked := 0
	for range 60 {
		script := someScript(r)
		every := r.Intn(4)
		want := results(t, made(t, 100000, 40, every), script)
		for range 3 {
			got := results(t, made(t, 100000, 40, every), script)
			for k := range want {
				if !got[k].same(want[k]) {
					t.Fatalf("step %d, %v: %v, not %v", k, script[k].Kind, got[k], want[k])
				}
				if script[k].Kind == api.StepBytes && len(got[k].told) > 0 {
					worked++
				}
				script[k].Order = someNumbers(r)
			}
		}
	}
	if worked < 1000 {
		t.Error("there was work only", worked, "times")
	}
}

// code is that of an answer.
func code(b []byte) api.Errno {
	a, _ := codec.ReadAnswer(b)
	return a.Code
}

// A witness knows what is in the store, whatever happens to the disk.
type witness struct {
	done                [][]byte // what the store was made of
	image               []byte   // of such a store
	interrupted         []byte   // the command during which the disk stopped
	stopped, kept, full int
}

// see holds what a step leads to.
func (y *witness) see(t *testing.T, w *world.World, s api.Step) {
	t.Helper()
	ran, stopped := w.Server() != nil, w.Server().Stopped()
	answer, err := w.Do(s)
	if s.Kind == api.StepBytes && err == api.OK && !stopped {
		y.hear(s.Bytes, code(answer))
	}
	if w.Server() == nil {
		return
	}
	image := w.Server().Image()
	if !ran && y.interrupted != nil {
		if !bytes.Equal(image, y.image) {
			y.learn(y.interrupted)
			y.kept++
		}
		y.interrupted = nil
	}
	if !bytes.Equal(image, y.image) {
		t.Fatalf("%v: the store is another one", s)
	}
}

func (y *witness) learn(l ...[]byte) {
	y.done = append(y.done, l...)
	y.image = imaged(40, y.done...)
}

// hear takes notice of what a command was answered by a server that had not stopped.
func (y *witness) hear(b []byte, code api.Errno) {
	k, err := codec.ReadCommand(b)
	if err != api.OK || k.Verb > api.VerbTick {
		return
	}
	switch code {
	case api.OK:
		y.learn(b)
	case api.ErrDead:
		y.interrupted = b
		y.stopped++
	case api.ErrDisk:
		y.full++
	}
}

// TestP33_4Scripts holds for random scripts that behind any crash, the store is that of all commands that were answered OK, and maybe of the interrupted one.
func TestP33_4Scripts(t *testing.T) {
	r := rand.New(rand.NewSource(344))
	var all witness
	for range 160 {
		w, y := made(t, 100000, 40, r.Intn(4)), &witness{}
		y.learn()
		for _, s := range someScript(r) {
			y.see(t, w, s)
		}
		all.stopped, all.kept, all.full = all.stopped+y.stopped, all.kept+y.kept, all.full+y.full
	}
	if all.stopped < 100 || all.kept < 20 || all.full < 100 {
		t.Error("the disk stopped", all.stopped, "times, the command was kept", all.kept, "times, the disk was full", all.full, "times")
	}
}

// TestP34_4Snapshots holds that without crashes, the times at which snapshots are taken make no difference.
func TestP34_4Snapshots(t *testing.T) {
	r := rand.New(rand.NewSource(345))
	for range 40 {
		one, other := made(t, api.MaxRoom, 40, 0), made(t, api.MaxRoom, 40, 1+r.Intn(9))
		for range 50 {
			s := api.Step{Kind: api.StepBytes, Bytes: someBytes(r)}
			a, err := one.Do(s)
			s.Order = someNumbers(r)
			if r.Intn(5) == 0 {
				wantStep(t, other, crash, api.OK)
				wantStep(t, other, start, api.OK)
			}
			b, wrong := other.Do(s)
			if r.Intn(9) == 0 {
				send(t, other, compact())
			}
			if !bytes.Equal(a, b) || err != wrong || !bytes.Equal(one.Server().Image(), other.Server().Image()) {
				t.Fatalf("%.60q: %v, not %v", s.Bytes, b, a)
			}
		}
	}
}
