package world_test

import (
	"bytes"
	"math"
	"slices"
	"testing"

	"dossier/api"
	"dossier/codec"
	"dossier/server"
	"dossier/show"
	"dossier/store"
	"dossier/value"
	"dossier/vdisk"
	"dossier/world"
)

// desk is a model whose cases have work that can be chosen in any order: what waits for t is a crowd.
func desk() api.Model {
	on := func(item string, event int) []api.Sentry {
		return []api.Sentry{{On: []api.OnPart{{Item: item, Event: event}}}}
	}
	kids := []api.Item{{ID: "t", Kind: api.ItemHuman, Roles: []string{"boss"}}, {ID: "w", Kind: api.ItemTimer, After: 5}, {ID: "m", Kind: api.ItemMilestone, Entry: []api.Sentry{{If: "order > 5"}}}}
	for _, id := range []string{"a", "b", "c", "d"} {
		kids = append(kids, api.Item{ID: id, Kind: api.ItemHuman, Free: id < "c", Entry: on("t", api.EvComplete), Exit: on("w", api.EvOccur)})
	}
	kids = append(kids, api.Item{ID: "s", Kind: api.ItemStage, Entry: on("a", api.EvComplete), Kids: []api.Item{{ID: "v", Kind: api.ItemProcess}}})
	return api.Model{ID: "desk", Roles: []string{"boss"}, Files: []api.FileItem{{Name: "order", Multi: api.MultiAny, Kind: api.KindInt}}, Plan: api.Item{ID: "p", Kids: kids, Table: []api.Item{{ID: "x", Kind: api.ItemHuman}}}}
}

func deploy(m api.Model) []byte {
	b, err := show.Print(m)
	if err != api.OK {
		panic(err)
	}
	return coded(api.Command{Verb: api.VerbDeploy, Text: string(b)})
}
func create(name string) []byte { return coded(api.Command{Verb: api.VerbCreate, Name: name}) }
func do(id int, path string, event int) []byte {
	return coded(api.Command{Verb: api.VerbDo, Case: id, Role: "boss", Path: path, Event: event})
}
func plan(id int, path, name string) []byte {
	return coded(api.Command{Verb: api.VerbPlan, Case: id, Path: path, Name: name})
}
func note(id, n int) []byte {
	return coded(api.Command{Verb: api.VerbFile, Case: id, Event: api.EvCreate, Name: "order", Value: value.Int(n)})
}
func tick(id, time int) []byte {
	return coded(api.Command{Verb: api.VerbTick, Case: id, Int: time})
}
func look(id int) []byte { return coded(api.Command{Verb: api.VerbLook, Case: id}) }
func list() []byte       { return coded(api.Command{Verb: api.VerbList}) }
func compact() []byte    { return coded(api.Command{Verb: api.VerbCompact}) }

func coded(k api.Command) []byte {
	b, err := codec.Command(k)
	if err != api.OK {
		panic(err)
	}
	return b
}

// script is a row of commands that are answered OK, one after another.
func script() [][]byte {
	return [][]byte{deploy(desk()), create("desk"), do(1, "p.1/t.1", api.EvComplete), create("desk"), note(2, 7), tick(2, 5), plan(2, "p.1", "x"), do(1, "p.1/s.1", api.EvSuspend), tick(1, 9)}
}

// stored is the store that some commands lead to, all of which are answered OK.
func stored(most int, l ...[]byte) *store.Store {
	s, err := store.New(most)
	if err != api.OK {
		panic(err)
	}
	for _, b := range l {
		k, _ := codec.ReadCommand(b)
		if a := s.Do(k, nil); a.Code != api.OK {
			panic(a.Code)
		}
	}
	return s
}

func imaged(most int, l ...[]byte) []byte { return stored(most, l...).Encode() }

func made(t *testing.T, room, most, every int) *world.World {
	t.Helper()
	w, err := world.New(room, most, every)
	if err != api.OK || w == nil || w.Server() == nil || w.Disk() == nil {
		t.Fatal(room, most, every, err)
	}
	return w
}

// wantStep holds a step that has no answer.
func wantStep(t *testing.T, w *world.World, s api.Step, want api.Errno) {
	t.Helper()
	if b, err := w.Do(s); err != want || len(b) != 0 {
		t.Errorf("%v: %v, %v, not %v", s, b, err, want)
	}
}

// wantCode holds the code of the answer to a command.
func wantCode(t *testing.T, w *world.World, b []byte, want api.Errno) {
	t.Helper()
	got, err := w.Do(api.Step{Kind: api.StepBytes, Bytes: b})
	a, wrong := codec.ReadAnswer(got)
	if err != api.OK || wrong != api.OK || a.Code != want {
		t.Errorf("%.60q: %v, %v, not %v", b, a, err, want)
	}
}

func send(t *testing.T, w *world.World, l ...[]byte) {
	t.Helper()
	for _, b := range l {
		wantCode(t, w, b, api.OK)
	}
}

func wantTold(t *testing.T, w *world.World, want ...[]byte) {
	t.Helper()
	if got := w.Told(); !slices.EqualFunc(got, want, bytes.Equal) {
		t.Errorf("%d commands were told, not %d: %.200q", len(got), len(want), got)
	}
}

var (
	crash = api.Step{Kind: api.StepCrash}
	start = api.Step{Kind: api.StepOpen}
)

func fuse(n int) api.Step { return api.Step{Kind: api.StepFuse, N: n} }
func room(n int) api.Step { return api.Step{Kind: api.StepRoom, N: n} }

func TestP34_1New(t *testing.T) {
	for _, x := range [][3]int{{11, 1, 0}, {api.MaxRoom, api.MaxInst, 1000}, {100, 30, 7}} {
		w := made(t, x[0], x[1], x[2])
		if s := w.Server(); s.Stopped() || s.Records() != 0 || !bytes.Equal(s.Image(), imaged(x[1])) {
			t.Error(x, s.Records())
		}
		wantTold(t, w)
	}
	for _, x := range []struct {
		room, most, every int
		want              api.Errno
	}{
		{-1, 30, 0, api.ErrArg}, {api.MaxRoom + 1, 30, 0, api.ErrArg}, {math.MaxInt, 30, 0, api.ErrArg}, {math.MinInt, 30, 0, api.ErrArg},
		{1000, 0, 0, api.ErrArg}, {1000, api.MaxInst + 1, 0, api.ErrArg}, {1000, 30, -1, api.ErrArg}, {1000, 30, 1001, api.ErrArg},
		{0, 0, 0, api.ErrArg}, {0, 30, -1, api.ErrArg}, {0, 30, 0, api.ErrDisk}, {10, 30, 0, api.ErrDisk}, {11, 30, 0, api.OK}, {11, 300, 0, api.ErrDisk},
	} {
		if w, err := world.New(x.room, x.most, x.every); err != x.want || (w == nil) != (err != api.OK) {
			t.Error(x, err)
		}
	}
}

// TestP34_1Arguments holds that the server gets them.
func TestP34_1Arguments(t *testing.T) {
	w := made(t, 100000, 3, 2)
	send(t, w, deploy(desk()))
	wantCode(t, w, create("desk"), api.ErrBudget)
	w = made(t, 100000, 30, 2)
	for n, b := range script() {
		if send(t, w, b); w.Server().Records() != (n+1)%2 {
			t.Error(n, w.Server().Records())
		}
	}
	// So does each that is started later.
	wantStep(t, w, crash, api.OK)
	wantStep(t, w, start, api.OK)
	if n := w.Server().Records(); n != 1 {
		t.Fatal(n)
	}
	send(t, w, tick(1, 1))
	if n := w.Server().Records(); n != 0 {
		t.Error(n)
	}
	used := w.Disk().Used()
	wantStep(t, w, room(used), api.OK)
	wantCode(t, w, tick(1, 1), api.ErrDisk)
}

func TestP34_2Unmade(t *testing.T) {
	for _, w := range []*world.World{nil, {}, new(world.World)} {
		for kind := range 8 {
			wantStep(t, w, api.Step{Kind: kind, N: -1}, api.ErrNil)
		}
		if w.Server() != nil || w.Disk() != nil || len(w.Told()) != 0 {
			t.Error(w.Server(), w.Disk(), w.Told())
		}
	}
}

// TestP34_2Bytes holds that a world answers as its server does.
func TestP34_2Bytes(t *testing.T) {
	w := made(t, 100000, 30, 3)
	d, _ := vdisk.New(100000)
	s, err := server.Open(d, 30, 3)
	if err != api.OK {
		t.Fatal(err)
	}
	l := slices.Concat([][]byte{nil, {0}, {20}, list(), look(1), create("desk")}, script(), script(), [][]byte{compact(), look(1), look(2), list(), append(list(), 0), slices.Repeat([]byte{255}, 5000)})
	for n, b := range l {
		got, err := w.Do(api.Step{Kind: api.StepBytes, Bytes: b, Order: []int{n, 3, -n}, N: -1, Keeps: []int{n}})
		if want := s.Do(b, nil); err != api.OK || !bytes.Equal(got, want) || len(got) < 5 {
			t.Errorf("%.60q: %v, not %v", b, got, want)
		}
		if !bytes.Equal(w.Server().Image(), s.Image()) || w.Server().Records() != s.Records() {
			t.Errorf("%.60q: the servers differ", b)
		}
	}
}

func TestP34_2ExampleBytesAfterCrash(t *testing.T) {
	w := made(t, 100000, 30, 0)
	send(t, w, deploy(desk()))
	wantStep(t, w, crash, api.OK)
	for _, b := range [][]byte{nil, {0}, {20}, list(), create("desk"), compact()} {
		wantStep(t, w, api.Step{Kind: api.StepBytes, Bytes: b}, api.ErrDead)
	}
	wantTold(t, w, deploy(desk()))
	if w.Server() != nil {
		t.Error("the server is running")
	}
	wantStep(t, w, start, api.OK)
	send(t, w, create("desk"))
}

func TestP34_2Fuse(t *testing.T) {
	w := made(t, 100000, 30, 0)
	for _, n := range []int{-1, math.MinInt} {
		wantStep(t, w, fuse(n), api.ErrArg)
	}
	l := script()
	send(t, w, l[0]) // a negative fuse was none
	wantStep(t, w, fuse(3), api.OK)
	send(t, w, l[1])
	wantCode(t, w, l[2], api.ErrDead) // one of two changes
	if !w.Server().Stopped() || !w.Disk().Dead() {
		t.Error("the disk has not stopped")
	}
	wantCode(t, w, list(), api.ErrDead)
	wantStep(t, w, crash, api.OK)
	wantStep(t, w, fuse(-1), api.ErrArg)
	wantStep(t, w, fuse(0), api.OK) // without a server, too
	wantStep(t, w, start, api.OK)
	wantCode(t, w, l[2], api.ErrDead)
	wantTold(t, w, l[:2]...)
}

func TestP34_2Room(t *testing.T) {
	w := made(t, 100000, 30, 0)
	for _, n := range []int{-1, api.MaxRoom + 1, math.MaxInt, math.MinInt} {
		wantStep(t, w, room(n), api.ErrArg)
	}
	l := script()
	send(t, w, l[0])
	for _, n := range []int{0, 1, w.Disk().Used(), w.Disk().Used() + 7} {
		wantStep(t, w, room(n), api.OK)
		wantCode(t, w, l[1], api.ErrDisk)
		wantCode(t, w, compact(), api.ErrDisk)
		wantTold(t, w, l[0])
	}
	wantStep(t, w, crash, api.OK)
	wantStep(t, w, room(api.MaxRoom), api.OK)
	wantStep(t, w, start, api.OK)
	send(t, w, l[1:]...)
	wantTold(t, w, l...)
}

// TestP34_2Crash holds what a crash keeps of a command during which the disk stopped.
func TestP34_2Crash(t *testing.T) {
	l := script()
	for keep, want := range map[int]int{-1: 1, 0: 1, 1: 1, 8: 1, 9: 1, 8 + len(l[1]) - 1: 1, 8 + len(l[1]): 2, 99999: 2} {
		w := made(t, 100000, 30, 0)
		send(t, w, l[0])
		wantStep(t, w, fuse(1), api.OK)
		wantCode(t, w, l[1], api.ErrDead)
		wantStep(t, w, api.Step{Kind: api.StepCrash, Keeps: []int{keep}, N: -1, Bytes: l[2]}, api.OK)
		if w.Server() != nil || w.Disk().Dead() {
			t.Error(keep, "the server is running, or the disk is not")
		}
		wantStep(t, w, crash, api.OK) // once more, for nothing
		wantStep(t, w, start, api.OK)
		if !bytes.Equal(w.Server().Image(), imaged(30, l[:want]...)) || w.Server().Records() != want {
			t.Error(keep, w.Server().Records())
		}
		wantTold(t, w, l[0]) // the other one was not told
		send(t, w, l[want:]...)
		wantTold(t, w, slices.Concat(l[:1], l[want:])...)
	}
}

func TestP34_2OpenWhileRunning(t *testing.T) {
	w := made(t, 100000, 30, 0)
	s := w.Server()
	send(t, w, script()...)
	for range 3 {
		if wantStep(t, w, start, api.OK); w.Server() != s {
			t.Error("there is another server")
		}
	}
	// One whose journal has stopped is running as well.
	wantStep(t, w, fuse(0), api.OK)
	wantCode(t, w, tick(1, 1), api.ErrDead)
	if wantStep(t, w, start, api.OK); w.Server() != s || !s.Stopped() {
		t.Error("there is another server")
	}
	wantStep(t, w, crash, api.OK)
	if wantStep(t, w, start, api.OK); w.Server() == s || w.Server().Stopped() {
		t.Error("there is no other server")
	}
}

func TestP34_2OpenFails(t *testing.T) {
	w := made(t, 100000, 30, 0)
	l := script()
	send(t, w, l[0])
	wantStep(t, w, fuse(1), api.OK)
	wantCode(t, w, l[1], api.ErrDead)
	wantStep(t, w, api.Step{Kind: api.StepCrash, Keeps: []int{5}}, api.OK)
	wantStep(t, w, fuse(0), api.OK)
	for range 2 {
		wantStep(t, w, start, api.ErrDead) // the five bytes are not cut off
		if w.Server() != nil {
			t.Error("the server is running")
		}
		wantStep(t, w, api.Step{Kind: api.StepBytes, Bytes: list()}, api.ErrDead)
	}
	wantStep(t, w, crash, api.OK)
	wantStep(t, w, start, api.OK)
	send(t, w, l[1])
	wantStep(t, w, crash, api.OK)
	if err := w.Disk().Truncate("journal", 3); err != api.OK {
		t.Fatal(err)
	}
	wantStep(t, w, start, api.ErrLog)
	if w.Server() != nil {
		t.Error("the server is running")
	}
	wantTold(t, w, l[:2]...)
	wantStep(t, w, room(0), api.OK)
	if err := w.Disk().Remove("journal"); err != api.OK {
		t.Fatal(err)
	}
	wantStep(t, w, start, api.ErrDisk)
	wantStep(t, w, room(100), api.OK)
	wantStep(t, w, start, api.OK)
	if !bytes.Equal(w.Server().Image(), imaged(30)) {
		t.Error("the store is not empty")
	}
}

func TestP34_2OtherKinds(t *testing.T) {
	w := made(t, 100000, 30, 0)
	send(t, w, script()...)
	s, image := w.Server(), w.Server().Image()
	for _, running := range []bool{true, false} {
		for _, kind := range []int{0, -1, 6, 7, math.MaxInt, math.MinInt} {
			wantStep(t, w, api.Step{Kind: kind, N: 1, Bytes: list(), Keeps: []int{1}, Order: []int{1}}, api.ErrArg)
			if (w.Server() == s) != running || running && !bytes.Equal(s.Image(), image) {
				t.Error(kind, "has an effect")
			}
		}
		wantStep(t, w, crash, api.OK)
	}
}

func TestP34_3Disk(t *testing.T) {
	w := made(t, 100000, 30, 0)
	d := w.Disk()
	for _, s := range []api.Step{crash, start, room(5), fuse(0), {Kind: api.StepBytes, Bytes: deploy(desk())}, crash, start} {
		if w.Do(s); w.Disk() != d {
			t.Error(s, "leads to another disk")
		}
	}
	if !slices.Equal(d.Names(), []string{"journal"}) {
		t.Error(d.Names())
	}
}

func TestP34_3Told(t *testing.T) {
	w := made(t, 100000, 30, 1)
	l := script()
	for n, b := range l {
		wantTold(t, w, l[:n]...)
		for _, bad := range [][]byte{nil, {0}, {20}, look(9), create("none"), do(9, "p.1", api.EvComplete), append(slices.Clone(b), 0), b[:len(b)-1]} {
			w.Do(api.Step{Kind: api.StepBytes, Bytes: bad})
		}
		send(t, w, list(), compact()) // they change nothing
		wantTold(t, w, l[:n]...)
		send(t, w, b)
		wantTold(t, w, l[:n+1]...)
		wantStep(t, w, crash, api.OK)
		wantTold(t, w, l[:n+1]...)
		wantStep(t, w, start, api.OK)
	}
}

// TestP34_3ToldWithoutSnapshot holds that a command counts even if the disk stops while the snapshot is made.
func TestP34_3ToldWithoutSnapshot(t *testing.T) {
	w := made(t, 100000, 30, 1)
	wantStep(t, w, fuse(3), api.OK)
	send(t, w, deploy(desk()))
	wantCode(t, w, create("desk"), api.ErrDead)
	wantTold(t, w, deploy(desk()))
}

func TestP34_3Memory(t *testing.T) {
	w := made(t, 100000, 30, 0)
	l := script()
	for _, b := range l {
		s := api.Step{Kind: api.StepBytes, Bytes: append(make([]byte, 0, 9000), b...), Order: append(make([]int, 0, 9), 3, 1), Keeps: append(make([]int, 0, 9), 4)}
		a, err := w.Do(s)
		if err != api.OK {
			t.Fatal(err)
		}
		clear(a[:cap(a)])
		if !bytes.Equal(s.Bytes, b) || slices.ContainsFunc(s.Bytes[len(b):cap(s.Bytes)], func(x byte) bool { return x != 0 }) || !slices.Equal(s.Order[:cap(s.Order)], []int{3, 1, 0, 0, 0, 0, 0, 0, 0}) || s.Keeps[0] != 4 {
			t.Error("an argument was modified")
		}
		clear(s.Bytes)
		told := w.Told()
		for _, x := range told[:cap(told)] {
			clear(x[:cap(x)])
		}
		clear(told[:cap(told)])
	}
	wantTold(t, w, l...)
	keeps := append(make([]int, 0, 9), 4, 5)
	if w.Do(api.Step{Kind: api.StepCrash, Keeps: keeps}); !slices.Equal(keeps[:cap(keeps)], []int{4, 5, 0, 0, 0, 0, 0, 0, 0}) {
		t.Error(keeps)
	}
}
