package server_test

import (
	"bytes"
	"encoding/binary"
	"hash/crc32"
	"math"
	"slices"
	"strconv"
	"strings"
	"testing"

	"dossier/api"
	"dossier/codec"
	"dossier/server"
	"dossier/show"
	"dossier/store"
	"dossier/value"
	"dossier/vdisk"
)

// office is a model with something for each verb in it.
func office() api.Model {
	on := func(item string, event int) []api.Sentry {
		return []api.Sentry{{On: []api.OnPart{{Item: item, Event: event}}}}
	}
	return api.Model{ID: "office", Roles: []string{"boss"}, Files: []api.FileItem{{Name: "order", Multi: api.MultiAny, Kind: api.KindInt}}, Plan: api.Item{ID: "p", Kids: []api.Item{
		{ID: "t", Kind: api.ItemHuman, Roles: []string{"boss"}},
		{ID: "u", Kind: api.ItemHuman, Entry: on("t", api.EvComplete)},
		{ID: "s", Kind: api.ItemStage, Kids: []api.Item{{ID: "w", Kind: api.ItemTimer, After: 5}, {ID: "v", Kind: api.ItemProcess}}, Table: []api.Item{{ID: "x", Kind: api.ItemHuman}}},
		{ID: "m", Kind: api.ItemMilestone, Entry: []api.Sentry{{If: "order > 5"}}},
	}}}
}

func small(id string) api.Model { return api.Model{ID: id, Plan: api.Item{ID: "p"}} }

func document(m api.Model) string {
	b, err := show.Print(m)
	if err != api.OK {
		panic(err)
	}
	return string(b)
}

func deploy(m api.Model) api.Command {
	return api.Command{Verb: api.VerbDeploy, Text: document(m)}
}
func create(name string) api.Command { return api.Command{Verb: api.VerbCreate, Name: name} }
func do(id int, path string, event int) api.Command {
	return api.Command{Verb: api.VerbDo, Case: id, Role: "boss", Path: path, Event: event}
}
func plan(id int, path, name string) api.Command {
	return api.Command{Verb: api.VerbPlan, Case: id, Path: path, Name: name}
}
func note(id, n int) api.Command {
	return api.Command{Verb: api.VerbFile, Case: id, Event: api.EvCreate, Name: "order", Value: value.Int(n)}
}
func tick(id, time int) api.Command { return api.Command{Verb: api.VerbTick, Case: id, Int: time} }
func look(id int) api.Command       { return api.Command{Verb: api.VerbLook, Case: id} }

var (
	list    = api.Command{Verb: api.VerbList}
	compact = api.Command{Verb: api.VerbCompact}
)

// script is a row of commands that are answered OK, one after another.
func script() []api.Command {
	return []api.Command{
		deploy(small("a")), create("a"), deploy(office()), create("office"), do(2, "p.1/t.1", api.EvComplete), note(2, 3), tick(2, 5), plan(2, "p.1/s.1", "x"),
		create("office"), do(3, "p.1/s.1", api.EvSuspend), note(2, 7), do(2, "p.1/u.1", api.EvTerminate),
	}
}

// coded is the bytes of a command.
func coded(k api.Command) []byte {
	b, err := codec.Command(k)
	if err != api.OK {
		panic(err)
	}
	return b
}

func allCoded(l ...api.Command) [][]byte {
	var all [][]byte
	for _, k := range l {
		all = append(all, coded(k))
	}
	return all
}

// stored is the store that some commands lead to, all of which are answered OK.
func stored(most int, l ...api.Command) *store.Store {
	s, err := store.New(most)
	if err != api.OK {
		panic(err)
	}
	for _, k := range l {
		if a := s.Do(k, nil); a.Code != api.OK {
			panic(a.Code)
		}
	}
	return s
}

func imaged(most int, l ...api.Command) []byte { return stored(most, l...).Encode() }

// framed is the file of a journal.
func framed(snapshot []byte, records ...[]byte) []byte {
	var b []byte
	for _, x := range append([][]byte{snapshot}, records...) {
		b = binary.BigEndian.AppendUint32(b, uint32(len(x)))
		b = binary.BigEndian.AppendUint32(b, crc32.ChecksumIEEE(x))
		b = append(b, x...)
	}
	return b
}

func disk(t *testing.T, room int) *vdisk.Disk {
	t.Helper()
	d, err := vdisk.New(room)
	if err != api.OK {
		t.Fatal(room, err)
	}
	return d
}

func ok(t *testing.T, l ...api.Errno) {
	t.Helper()
	for k, err := range l {
		if err != api.OK {
			t.Fatal(k, err)
		}
	}
}

// written is a disk with a journal of these bytes.
func written(t *testing.T, b []byte) *vdisk.Disk {
	t.Helper()
	d := disk(t, api.MaxRoom)
	ok(t, d.Append("journal", b), d.Sync("journal"))
	return d
}

func opened(t *testing.T, d *vdisk.Disk, most, every int) *server.Server {
	t.Helper()
	s, err := server.Open(d, most, every)
	if err != api.OK || s == nil || s.Stopped() {
		t.Fatal(most, every, err)
	}
	return s
}

// wantFile holds what is on a disk: a journal, and nothing else.
func wantFile(t *testing.T, d *vdisk.Disk, want []byte) {
	t.Helper()
	got, err := d.Read("journal")
	if err != api.OK || !bytes.Equal(got, want) || !slices.Equal(d.Names(), []string{"journal"}) {
		t.Errorf("%v: %x, not %x", d.Names(), got, want)
	}
	c := d.Copy()
	if c.Crash(nil); c.Used() != len(want) {
		t.Error("not all of it is synced")
	}
}

// wantAnswer holds an answer's bytes.
func wantAnswer(t *testing.T, s *server.Server, b []byte, want api.Answer) {
	t.Helper()
	if got := s.Do(b, []int{2, -1, 5}); !bytes.Equal(got, codec.Answer(want)) {
		t.Errorf("%.60q: %v, not %v", b, got, want)
	}
}

// wantSame holds an answer that changes nothing.
func wantSame(t *testing.T, d *vdisk.Disk, s *server.Server, b []byte, want api.Answer) {
	t.Helper()
	image, records, stopped := s.Image(), s.Records(), s.Stopped()
	file, _ := d.Read("journal")
	wantAnswer(t, s, b, want)
	after, _ := d.Read("journal")
	if !bytes.Equal(s.Image(), image) || s.Records() != records || s.Stopped() != stopped || !bytes.Equal(file, after) {
		t.Errorf("%.60q: something was changed", b)
	}
}

func sendAll(t *testing.T, s *server.Server, l ...api.Command) {
	t.Helper()
	for _, k := range l {
		if a, err := codec.ReadAnswer(s.Do(coded(k), nil)); err != api.OK || a.Code != api.OK {
			t.Fatal(k, a, err)
		}
	}
}

func TestP33_1OpenEmpty(t *testing.T) {
	for _, most := range []int{1, 30, api.MaxInst} {
		for _, every := range []int{0, 1, 2, 999, 1000} {
			d := disk(t, 1000)
			s := opened(t, d, most, every)
			if !bytes.Equal(s.Image(), imaged(most)) || s.Records() != 0 {
				t.Error(most, every, s.Image(), s.Records())
			}
			wantFile(t, d, framed(imaged(most)))
		}
	}
}

// TestP33_1Order holds which error comes first, and that the first two leave the disk alone.
func TestP33_1Order(t *testing.T) {
	dead := disk(t, 1000)
	ok(t, dead.Fuse(0))
	dead.Sync("x")
	dead.Append("x", nil)
	for _, d := range []*vdisk.Disk{nil, {}, dead, disk(t, 0), written(t, nil)} {
		for _, most := range []int{0, -1, api.MaxInst + 1, math.MaxInt, math.MinInt} {
			for _, every := range []int{0, -1, 1001} {
				if s, err := server.Open(d, most, every); err != api.ErrArg || s != nil {
					t.Error(most, every, err)
				}
			}
		}
		for _, every := range []int{-1, 1001, math.MaxInt, math.MinInt} {
			if s, err := server.Open(d, 1, every); err != api.ErrArg || s != nil {
				t.Error(every, err)
			}
		}
	}
	for _, x := range [][2]int{{0, 0}, {1, -1}, {1, 1001}} {
		d := disk(t, 1000)
		ok(t, d.Append("journal.new", []byte("x")))
		server.Open(d, x[0], x[1])
		if !slices.Equal(d.Names(), []string{"journal.new"}) {
			t.Error(x, d.Names())
		}
	}
}

func TestP33_1ErrorOfJournal(t *testing.T) {
	dead := disk(t, 1000)
	ok(t, dead.Fuse(0))
	dead.Append("x", nil)
	image := framed(imaged(300))
	torn := written(t, append(slices.Clone(image), 1))
	ok(t, torn.Fuse(0))
	for _, x := range []struct {
		name string
		d    *vdisk.Disk
		want api.Errno
	}{
		{"no disk", nil, api.ErrNil}, {"a disk that no call made", &vdisk.Disk{}, api.ErrNil}, {"a stopped disk", dead, api.ErrDead},
		{"no room", disk(t, 0), api.ErrDisk}, {"room but for one byte", disk(t, len(image)-1), api.ErrDisk}, {"room", disk(t, len(image)), api.OK},
		{"no snapshot", written(t, nil), api.ErrLog}, {"a wrong checksum", written(t, append(slices.Clone(image[:len(image)-1]), 9)), api.ErrLog}, {"a part of a snapshot", written(t, image[:len(image)-1]), api.ErrLog},
		{"a tail that the disk does not cut off", torn, api.ErrDead},
	} {
		if s, err := server.Open(x.d, 300, 0); err != x.want || (s == nil) != (err != api.OK) {
			t.Errorf("%s: %v", x.name, err)
		}
	}
	for n := range 3 {
		d := disk(t, 1000)
		ok(t, d.Fuse(n))
		if s, err := server.Open(d, 300, 0); err != api.ErrDead || s != nil {
			t.Error(n, err)
		}
	}
}

func TestP33_1Snapshot(t *testing.T) {
	l := script()
	for n := range len(l) + 1 {
		d := written(t, framed(imaged(30, l[:n]...)))
		if s := opened(t, d, 30, 1); !bytes.Equal(s.Image(), imaged(30, l[:n]...)) || s.Records() != 0 {
			t.Errorf("%d: the store is another one", n)
		}
		wantFile(t, d, framed(imaged(30, l[:n]...)))
	}
	image := imaged(30, l...)
	for _, bad := range [][]byte{nil, {0}, image[:len(image)-1], append(slices.Clone(image), 0), []byte("junk"), coded(list), {0, 0, 0}} {
		if s, err := server.Open(written(t, framed(bad)), 30, 0); err != api.ErrLog || s != nil {
			t.Errorf("%q: %v", bad, err)
		}
	}
	for most := 1; most <= api.MaxInst; most++ {
		s, err := server.Open(written(t, framed(image)), most, 0)
		if (err == api.OK) != (most == 30) || err != api.OK && (err != api.ErrLog || s != nil) {
			t.Errorf("%d: %v", most, err)
		}
	}
}

func TestP33_1Records(t *testing.T) {
	l := script()
	for from := range len(l) + 1 {
		for to := from; to <= len(l); to++ {
			file := framed(imaged(30, l[:from]...), allCoded(l[from:to]...)...)
			d := written(t, file)
			// More records than every are left alone.
			if s := opened(t, d, 30, 1); !bytes.Equal(s.Image(), imaged(30, l[:to]...)) || s.Records() != to-from {
				t.Errorf("%d, %d: the store is another one", from, to)
			}
			wantFile(t, d, file)
		}
	}
	// What changes nothing is no obstacle.
	file := framed(imaged(30), allCoded(list, compact, deploy(small("a")), create("a"), look(1), compact)...)
	if s := opened(t, written(t, file), 30, 0); s.Records() != 6 || !bytes.Equal(s.Image(), imaged(30, deploy(small("a")), create("a"))) {
		t.Error(s.Records())
	}
}

func TestP33_1BadRecords(t *testing.T) {
	begin := []api.Command{deploy(small("a")), create("a")}
	for _, bad := range [][]byte{
		{0}, {20}, {128}, []byte("junk"), append(coded(list), 0), coded(create("a"))[:3], // no commands
		coded(deploy(small("a"))), coded(create("b")), coded(look(2)), coded(look(0)), coded(tick(1, api.MaxTick+1)), coded(do(1, "p.1", api.EvManual)), coded(do(2, "p.1", api.EvComplete)), coded(note(1, 3)), // not answered OK
	} {
		for n := range 4 {
			records := slices.Insert(allCoded(append(begin, tick(1, 1))...), n, bad)
			if s, err := server.Open(written(t, framed(imaged(30), records...)), 30, 0); err != api.ErrLog || s != nil {
				t.Errorf("%.40q at %d: %v", bad, n, err)
			}
		}
	}
	// The order counts.
	if _, err := server.Open(written(t, framed(imaged(30), allCoded(create("a"), deploy(small("a")))...)), 30, 0); err != api.ErrLog {
		t.Error(err)
	}
	// The number of instances does, too.
	if _, err := server.Open(written(t, framed(imaged(3), allCoded(deploy(office()), create("office"))...)), 3, 0); err != api.ErrLog {
		t.Error(err)
	}
}

func TestP33_1TornTail(t *testing.T) {
	l := script()[:4]
	whole := framed(imaged(30), allCoded(l...)...)
	start := len(framed(imaged(30), allCoded(l[:3]...)...))
	for n := start; n < len(whole); n++ {
		d := written(t, whole[:n])
		s := opened(t, d, 30, 0)
		if !bytes.Equal(s.Image(), imaged(30, l[:3]...)) || s.Records() != 3 {
			t.Errorf("%d of %d bytes", n, len(whole))
		}
		wantFile(t, d, whole[:start])
		sendAll(t, s, l[3])
		wantFile(t, d, whole)
	}
}

func TestP33_2Unmade(t *testing.T) {
	for _, s := range []*server.Server{nil, {}, new(server.Server)} {
		for _, b := range [][]byte{nil, {0}, coded(list), coded(compact), coded(deploy(office()))} {
			if a := s.Do(b, nil); len(a) != 0 {
				t.Errorf("%q: %v", b, a)
			}
		}
	}
}

func TestP33_2Example(t *testing.T) {
	d := disk(t, 1000)
	s := opened(t, d, 30, 0)
	for _, b := range [][]byte{nil, {}} {
		if a := s.Do(b, nil); !slices.Equal(a, []byte{6, 0, 0, 0, 0}) {
			t.Error(a)
		}
	}
	wantFile(t, d, framed(imaged(30)))
}

func TestP33_2NoCommand(t *testing.T) {
	d := disk(t, 10000)
	s := opened(t, d, 30, 1)
	sendAll(t, s, deploy(office()), create("office"))
	met := map[api.Errno]int{}
	for _, b := range [][]byte{
		{0}, {1}, {20}, {128}, {255, 255, 255}, append(coded(list), 0), append(coded(tick(1, 2)), 0), coded(tick(1, 2))[:2], slices.Concat(coded(note(1, 4))[:2], []byte{9}),
		binary.AppendVarint([]byte{2}, api.MaxText+1), append(binary.AppendVarint([]byte{2}, 5), "abc"...), {4, 0, 255, 255, 3}, {10, 2, 0, 2, 0, 0, 99}, slices.Repeat([]byte{255}, 100000),
	} {
		_, err := codec.ReadCommand(b)
		if met[err]++; err == api.OK {
			t.Fatalf("%q is a command", b)
		}
		wantSame(t, d, s, b, api.Answer{Code: err})
	}
	for _, err := range []api.Errno{api.ErrShort, api.ErrFull, api.ErrForm, api.ErrVerb} {
		if met[err] == 0 {
			t.Error("there was no", err)
		}
	}
}

// TestP33_2Changes holds each verb that changes the store: what the store answers, and that the command is then on the disk.
func TestP33_2Changes(t *testing.T) {
	l := script()
	d := disk(t, 100000)
	s := opened(t, d, 30, 0)
	for n, k := range l {
		wantAnswer(t, s, coded(k), stored(30, l[:n]...).Do(k, nil))
		if !bytes.Equal(s.Image(), imaged(30, l[:n+1]...)) || s.Records() != n+1 {
			t.Errorf("%v: the store is another one", k)
		}
		wantFile(t, d, framed(imaged(30), allCoded(l[:n+1]...)...))
	}
}

func TestP33_2Refused(t *testing.T) {
	d := disk(t, 100000)
	s := opened(t, d, 12, 1)
	sendAll(t, s, script()[:10]...)
	same := stored(12, script()[:10]...)
	met := map[api.Errno]int{}
	for _, k := range []api.Command{
		deploy(office()), {Verb: api.VerbDeploy}, {Verb: api.VerbDeploy, Text: "<a><b></a>"}, {Verb: api.VerbDeploy, Text: "<a/>"}, create("none"), create(""), {Verb: api.VerbCreate, Name: "office", Role: "stranger"},
		do(2, "p.1/t.1", api.EvComplete), do(2, "p.1/t.2", api.EvComplete), do(4, "p.1", api.EvComplete), do(3, "p.1", api.EvComplete), {Verb: api.VerbDo, Case: 3, Path: "p.1/t.1", Event: api.EvComplete}, plan(2, "p.1", "x"), plan(9, "p.1", "x"), note(1, 3), {Verb: api.VerbTick, Case: 2, Int: api.MaxTick + 1}, tick(0, 1),
	} {
		a := same.Copy().Do(k, nil)
		if met[a.Code]++; a.Code == api.OK {
			t.Fatalf("%v is not refused", k)
		}
		wantSame(t, d, s, coded(k), a)
	}
	for _, err := range []api.Errno{api.ErrKnown, api.ErrNest, api.ErrModel, api.ErrNone, api.ErrRole, api.ErrState, api.ErrNeeded, api.ErrArg} {
		if met[err] == 0 {
			t.Error("there was no", err)
		}
	}
	wantSame(t, d, s, coded(api.Command{Verb: api.VerbDeploy, Text: "<a><b></a>"}), api.Answer{Code: api.ErrNest, Offset: 6})
}

func TestP33_2Budget(t *testing.T) {
	d := disk(t, 100000)
	s := opened(t, d, 4, 0)
	sendAll(t, s, deploy(office()), deploy(small("a")))
	wantSame(t, d, s, coded(create("office")), api.Answer{Code: api.ErrBudget})
	wantAnswer(t, s, coded(create("a")), api.Answer{Case: 1})
}

func TestP33_2Others(t *testing.T) {
	d := disk(t, 100000)
	s := opened(t, d, 30, 1)
	wantSame(t, d, s, coded(list), api.Answer{})
	wantSame(t, d, s, coded(look(1)), api.Answer{Code: api.ErrNone})
	sendAll(t, s, script()...)
	same := stored(30, script()...)
	wantSame(t, d, s, coded(list), api.Answer{Names: []string{"a", "office", "1:a", "2:office", "3:office"}})
	for id := range 5 {
		wantSame(t, d, s, coded(look(id)), same.Do(look(id), nil))
	}
	if len(same.Do(look(2), nil).State.Insts) < 5 {
		t.Error("there is nothing to look at")
	}
}

// TestP33_2Full holds that a command for which there is no room has no effect, and succeeds when there is room.
func TestP33_2Full(t *testing.T) {
	l := script()
	for n, k := range l {
		used := len(framed(imaged(30), allCoded(l[:n+1]...)...))
		for _, every := range []int{0, 1000} {
			d := disk(t, used-1)
			s := opened(t, d, 30, every)
			sendAll(t, s, l[:n]...)
			wantSame(t, d, s, coded(k), api.Answer{Code: api.ErrDisk})
			wantSame(t, d, s, coded(k), api.Answer{Code: api.ErrDisk})
			wantSame(t, d, s, coded(list), stored(30, l[:n]...).Do(list, nil))
			wantSame(t, d, s, coded(create("none")), api.Answer{Code: api.ErrNone})
			ok(t, d.Room(used))
			wantAnswer(t, s, coded(k), stored(30, l[:n]...).Do(k, nil))
			wantFile(t, d, framed(imaged(30), allCoded(l[:n+1]...)...))
			if !bytes.Equal(s.Image(), imaged(30, l[:n+1]...)) {
				t.Errorf("%v: the store is another one", k)
			}
		}
	}
}

// TestP33_2Dead holds a command during which the disk stops, and that nothing is answered any more then.
func TestP33_2Dead(t *testing.T) {
	l := script()
	for n, k := range l {
		for fuse := range 2 {
			d := disk(t, 100000)
			s := opened(t, d, 30, 0)
			sendAll(t, s, l[:n]...)
			ok(t, d.Fuse(fuse))
			wantSame(t, d, s, coded(create("none")), api.Answer{Code: api.ErrNone}) // this needs no disk
			if a := s.Do(coded(k), nil); !slices.Equal(a, codec.Answer(api.Answer{Code: api.ErrDead})) {
				t.Errorf("%v: %v", k, a)
			}
			if !bytes.Equal(s.Image(), imaged(30, l[:n]...)) || s.Records() != n || !s.Stopped() {
				t.Errorf("%v: %d, %v", k, s.Records(), s.Stopped())
			}
			ok(t, d.Crash(nil)) // the disk is well again, the journal is not
			for _, b := range [][]byte{nil, {0}, {20}, coded(k), coded(list), coded(look(1)), coded(look(99)), coded(compact), append(coded(list), 0)} {
				wantSame(t, d, s, b, api.Answer{Code: api.ErrDead})
			}
		}
	}
}

func TestP33_2Every(t *testing.T) {
	l := script()
	for every := range len(l) + 2 {
		d := disk(t, 100000)
		s := opened(t, d, 30, every)
		from := 0
		for n, k := range l {
			wantSame(t, d, s, coded(create("none")), api.Answer{Code: api.ErrNone}) // what is refused does not count
			wantSame(t, d, s, coded(list), stored(30, l[:n]...).Do(list, nil))
			wantAnswer(t, s, coded(k), stored(30, l[:n]...).Do(k, nil))
			if every > 0 && n+1-from >= every {
				from = n + 1
			}
			wantFile(t, d, framed(imaged(30, l[:from]...), allCoded(l[from:n+1]...)...))
			if s.Records() != n+1-from || !bytes.Equal(s.Image(), imaged(30, l[:n+1]...)) {
				t.Errorf("%d, %d: %d records", every, n, s.Records())
			}
		}
	}
}

func TestP33_2ManyRecords(t *testing.T) {
	for _, every := range []int{0, 999, 1000} {
		d := disk(t, 100000)
		s := opened(t, d, 30, every)
		sendAll(t, s, deploy(small("a")), create("a"))
		for n := range 1003 {
			sendAll(t, s, tick(1, n))
			want := n + 3
			if every > 0 {
				want %= every
			}
			if s.Records() != want {
				t.Fatal(every, n, s.Records())
			}
		}
	}
}

// TestP33_2EveryAfterOpen holds that only a command that changes something leads to a snapshot.
func TestP33_2EveryAfterOpen(t *testing.T) {
	l := script()
	d := written(t, framed(imaged(30), allCoded(l[:6]...)...))
	s := opened(t, d, 30, 3)
	wantSame(t, d, s, coded(list), stored(30, l[:6]...).Do(list, nil))
	wantSame(t, d, s, coded(create("none")), api.Answer{Code: api.ErrNone})
	sendAll(t, s, l[6])
	wantFile(t, d, framed(imaged(30, l[:7]...)))
	if s.Records() != 0 {
		t.Error(s.Records())
	}
}

// TestP33_2EveryWithoutRoom holds that a snapshot for which there is no room is put off.
func TestP33_2EveryWithoutRoom(t *testing.T) {
	l := script()
	for n := 1; n < len(l); n++ {
		file := framed(imaged(30), allCoded(l[:n]...)...)
		room := len(file) + len(framed(imaged(30, l[:n]...)))
		d := disk(t, room-1)
		s := opened(t, d, 30, n)
		sendAll(t, s, l[:n]...)
		wantFile(t, d, file)
		if s.Records() != n || s.Stopped() {
			t.Error(n, s.Records(), s.Stopped())
		}
		d = disk(t, room)
		s = opened(t, d, 30, n)
		sendAll(t, s, l[:n]...)
		wantFile(t, d, framed(imaged(30, l[:n]...)))
		// With more room, the next command makes up for it.
		d = disk(t, room-1)
		s = opened(t, d, 30, n)
		sendAll(t, s, l[:n]...)
		ok(t, d.Room(100000))
		sendAll(t, s, l[n])
		wantFile(t, d, framed(imaged(30, l[:n+1]...)))
	}
}

// TestP33_2EveryWithoutDisk holds that a command counts even if the disk stops while the snapshot is made.
func TestP33_2EveryWithoutDisk(t *testing.T) {
	l := script()
	for n, k := range l {
		for fuse := 2; fuse < 5; fuse++ {
			d := disk(t, 100000)
			s := opened(t, d, 30, n+1)
			sendAll(t, s, l[:n]...)
			ok(t, d.Fuse(fuse))
			wantAnswer(t, s, coded(k), stored(30, l[:n]...).Do(k, nil))
			if !s.Stopped() || s.Records() != n+1 || !bytes.Equal(s.Image(), imaged(30, l[:n+1]...)) {
				t.Error(n, fuse, s.Stopped(), s.Records())
			}
			wantSame(t, d, s, coded(list), api.Answer{Code: api.ErrDead})
			ok(t, d.Crash([]int{999, 999}))
			s = opened(t, d, 30, n+1)
			if s.Records() != n+1 || !bytes.Equal(s.Image(), imaged(30, l[:n+1]...)) {
				t.Error(n, fuse, s.Records())
			}
		}
	}
}

func TestP33_2Compact(t *testing.T) {
	l := script()
	for n := range len(l) + 1 {
		d := disk(t, 100000)
		s := opened(t, d, 30, 0)
		sendAll(t, s, l[:n]...)
		for range 2 {
			wantAnswer(t, s, coded(compact), api.Answer{})
			wantFile(t, d, framed(imaged(30, l[:n]...)))
			if s.Records() != 0 || !bytes.Equal(s.Image(), imaged(30, l[:n]...)) {
				t.Error(n, s.Records())
			}
		}
		sendAll(t, s, l[n:]...)
		wantFile(t, d, framed(imaged(30, l[:n]...), allCoded(l[n:]...)...))
	}
}

func TestP33_2CompactFails(t *testing.T) {
	l := script()
	file, image := framed(imaged(30), allCoded(l...)...), framed(imaged(30, l...))
	d := disk(t, len(file)+len(image)-1)
	s := opened(t, d, 30, 0)
	sendAll(t, s, l...)
	wantSame(t, d, s, coded(compact), api.Answer{Code: api.ErrDisk})
	ok(t, d.Room(len(file)+len(image)))
	wantAnswer(t, s, coded(compact), api.Answer{})
	wantFile(t, d, image)
	for fuse := range 3 {
		d := disk(t, 100000)
		s := opened(t, d, 30, 0)
		sendAll(t, s, l...)
		ok(t, d.Fuse(fuse))
		wantAnswer(t, s, coded(compact), api.Answer{Code: api.ErrDead})
		if !s.Stopped() || s.Records() != len(l) || !bytes.Equal(s.Image(), imaged(30, l...)) {
			t.Error(fuse, s.Stopped(), s.Records())
		}
	}
}

// wide is a model of which a case has many instances with long paths.
func wide(id string) api.Model {
	var kids []api.Item
	for k := range 10 {
		m := "m" + strconv.Itoa(k)
		kids = append(kids, api.Item{ID: m, Kind: api.ItemMilestone, Repeat: "number(" + m + ", completed) < 25", Entry: []api.Sentry{{If: "true"}}})
	}
	for k := range 16 {
		kids = []api.Item{{ID: strings.Repeat("n", api.MaxName-2) + strconv.Itoa(10+k), Kind: api.ItemStage, Kids: kids}}
	}
	return api.Model{ID: id, Plan: api.Item{ID: "p", Kids: append(kids, api.Item{ID: "t", Kind: api.ItemHuman})}}
}

// TestP33_2Huge holds a store that is too long for a snapshot: the records have to do.
func TestP33_2Huge(t *testing.T) {
	d := disk(t, api.MaxRoom)
	s := opened(t, d, api.MaxInst, 1)
	sendAll(t, s, deploy(wide("m")))
	for range api.MaxCases {
		sendAll(t, s, create("m"))
	}
	if n := len(s.Image()); n <= api.MaxRoom {
		t.Fatal(n, "bytes are not enough")
	}
	if s.Records() == 0 || s.Stopped() {
		t.Fatal(s.Records(), s.Stopped())
	}
	wantSame(t, d, s, coded(compact), api.Answer{Code: api.ErrArg})
	if r := opened(t, d, api.MaxInst, 1); !bytes.Equal(r.Image(), s.Image()) {
		t.Error("the store is another one")
	}
}

func TestP33_3Unmade(t *testing.T) {
	for _, s := range []*server.Server{nil, {}, new(server.Server)} {
		if len(s.Image()) != 0 || s.Records() != 0 || !s.Stopped() {
			t.Error(s.Image(), s.Records(), s.Stopped())
		}
	}
}

func TestP33_3Memory(t *testing.T) {
	l := script()
	d := disk(t, 100000)
	s := opened(t, d, 30, 0)
	for _, k := range l {
		b, order := append(make([]byte, 0, 9000), coded(k)...), append(make([]int, 0, 9), 3, 1)
		a := s.Do(b, order)
		clear(a[:cap(a)])
		if !bytes.Equal(b, coded(k)) || slices.ContainsFunc(b[len(b):cap(b)], func(x byte) bool { return x != 0 }) || !slices.Equal(order[:cap(order)], []int{3, 1, 0, 0, 0, 0, 0, 0, 0}) {
			t.Errorf("%v: an argument was modified", k)
		}
		clear(b)
		image := s.Image()
		clear(image[:cap(image)])
	}
	if !bytes.Equal(s.Image(), imaged(30, l...)) {
		t.Error("the store has bytes of others")
	}
	wantFile(t, d, framed(imaged(30), allCoded(l...)...))
}
