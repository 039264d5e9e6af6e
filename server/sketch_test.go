package server_test

import (
	"bytes"
	"math/rand"
	"slices"
	"testing"

	"dossier/api"
	"dossier/codec"
	"dossier/server"
	"dossier/store"
	"dossier/value"
)

// A notebook defines what a server does whose disk does not stop: it makes its store anew from all commands that were answered OK.
type notebook struct {
	most, every, room int
	done              []api.Command // those that change the store
	snapshot          []byte
	records           [][]byte
}

func (n *notebook) store() *store.Store { return stored(n.most, n.done...) }

// size is that of the journal's file.
func (n *notebook) size() int { return len(framed(n.snapshot, n.records...)) }

// compact makes a snapshot if there is room for it beside the journal.
func (n *notebook) compact() api.Errno {
	image := n.store().Encode()
	if n.size()+8+len(image) > n.room {
		return api.ErrDisk
	}
	n.snapshot, n.records = image, nil
	return api.OK
}

func (n *notebook) do(b []byte) api.Answer {
	k, err := codec.ReadCommand(b)
	if err != api.OK {
		return api.Answer{Code: err}
	}
	if k.Verb == api.VerbCompact {
		return api.Answer{Code: n.compact()}
	}
	a := n.store().Do(k, nil)
	if a.Code != api.OK || k.Verb > api.VerbTick {
		return a
	}
	if n.size()+8+len(b) > n.room {
		return api.Answer{Code: api.ErrDisk}
	}
	n.done, n.records = append(n.done, k), append(n.records, b)
	if n.every > 0 && len(n.records) >= n.every {
		n.compact()
	}
	return a
}

func pick[T any](r *rand.Rand, l ...T) T { return l[r.Intn(len(l))] }

// someCommand is one that often can be executed.
func someCommand(r *rand.Rand) api.Command {
	id := 1 + r.Intn(4)
	path := pick(r, "p.1", "p.1/t.1", "p.1/u.1", "p.1/s.1", "p.1/s.1/v.1", "p.1/s.1/x.1", "p.1/m.1")
	switch r.Intn(12) {
	case 0, 1:
		other := office()
		other.ID = "other"
		return deploy(pick(r, office(), office(), small("a"), other))
	case 2, 3:
		return create(pick(r, "office", "office", "a", "other", "none"))
	case 4, 5, 6:
		return do(id, path, pick(r, api.EvComplete, api.EvSuspend, api.EvResume, api.EvTerminate, api.EvFault, api.EvReactivate))
	case 7:
		return plan(id, pick(r, path, "p.1/s.1"), "x")
	case 8, 9:
		k := note(id, r.Intn(10))
		if r.Intn(2) == 0 {
			k.Event, k.Path, k.Name, k.Value = pick(r, api.EvUpdate, api.EvReplace), "order#1", "", pick(r, value.Int(7), value.Text("x"))
		}
		return k
	case 10:
		return tick(id, pick(r, 0, 1, 5))
	}
	return pick(r, list, compact, look(id))
}

// someBytes are those of a command, or nearly.
func someBytes(r *rand.Rand) []byte {
	b := coded(someCommand(r))
	switch r.Intn(12) {
	case 0:
		return b[:r.Intn(len(b))]
	case 1:
		b[r.Intn(len(b))] = byte(r.Intn(256))
	}
	return b
}

func someOrder(r *rand.Rand) []int {
	order := make([]int, r.Intn(5))
	for k := range order {
		order[k] = r.Intn(1<<20) - 1<<19
	}
	return order
}

// TestP33_2Random holds random bytes against the definition, while the room changes and the server is opened anew.
func TestP33_2Random(t *testing.T) {
	r := rand.New(rand.NewSource(33))
	met, fine := map[api.Errno]int{}, map[int]int{}
	for range 60 {
		n := &notebook{most: pick(r, 5, 9, 30, 30), every: pick(r, 0, 0, 1, 2, 5, 1000), room: 100000}
		n.snapshot = imaged(n.most)
		d := disk(t, n.room)
		s := opened(t, d, n.most, n.every)
		for range 50 {
			b := someBytes(r)
			want := n.do(b)
			if got := s.Do(b, someOrder(r)); !bytes.Equal(got, codec.Answer(want)) {
				t.Fatalf("%.80q: %v, not %v", b, got, want)
			}
			if !bytes.Equal(s.Image(), n.store().Encode()) || s.Records() != len(n.records) || s.Stopped() {
				t.Fatalf("%.80q: the store is another one", b)
			}
			wantFile(t, d, framed(n.snapshot, n.records...))
			if met[want.Code]++; want.Code == api.OK {
				fine[int(b[0]/2)]++
			}
			switch r.Intn(6) {
			case 0:
				n.room = pick(r, 100000, 100000, n.size()+r.Intn(50), n.size()+r.Intn(6000))
				ok(t, d.Room(n.room))
			case 1:
				if ok(t, d.Crash(nil)); r.Intn(2) == 0 {
					n.every = pick(r, 0, 1, 2, 5)
				}
				s = opened(t, d, n.most, n.every)
			}
		}
	}
	for _, err := range []api.Errno{api.ErrShort, api.ErrFull, api.ErrVerb, api.ErrKnown, api.ErrNone, api.ErrRole, api.ErrState, api.ErrNeeded, api.ErrKind, api.ErrDisk, api.ErrBudget} {
		if met[err] < 3 {
			t.Errorf("%v: only %d times", err, met[err])
		}
	}
	for verb := api.VerbDeploy; verb <= api.VerbCompact; verb++ {
		if fine[verb] < 20 {
			t.Errorf("verb %d: only %d times", verb, fine[verb])
		}
	}
}

// TestP33_1RandomFiles holds that any bytes on the disk are refused, or a journal that leads to a store whose image can be read again.
func TestP33_1RandomFiles(t *testing.T) {
	r := rand.New(rand.NewSource(331))
	file := framed(imaged(30, script()[:3]...), allCoded(script()[3:]...)...)
	start := len(framed(imaged(30, script()[:3]...)))
	refused, cut := 0, 0
	for range 1000 {
		b := slices.Clone(file)
		from := pick(r, 0, start)
		b[from+r.Intn(len(b)-from)] ^= 1 << r.Intn(8)
		d := written(t, b[:len(b)-r.Intn(2)*r.Intn(len(b)-from)])
		s, err := server.Open(d, 30, 0)
		if err != api.OK {
			if refused++; err != api.ErrLog || s != nil {
				t.Fatal(err)
			}
			continue
		}
		cut++
		if want := imaged(30, script()[:3+s.Records()]...); !bytes.Equal(s.Image(), want) {
			t.Fatal(s.Records(), "records: the store is another one")
		}
	}
	if refused < 100 || cut < 100 {
		t.Error(refused, cut)
	}
}
