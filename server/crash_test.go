package server_test

import (
	"bytes"
	"testing"

	"dossier/api"
	"dossier/codec"
	"dossier/server"
	"dossier/vdisk"
)

// crossed is the script, with snapshots and questions between its commands.
func crossed() []api.Command {
	l := script()
	l = append(l[:5:5], append([]api.Command{compact, look(2)}, l[5:]...)...)
	return append(l, list, compact, note(3, 9), tick(2, 1))
}

// changing are the commands of a row that change the store.
func changing(l []api.Command) []api.Command {
	var all []api.Command
	for _, k := range l {
		if k.Verb <= api.VerbTick {
			all = append(all, k)
		}
	}
	return all
}

// run sends commands until one is not answered OK, and returns how many were.
func run(s *server.Server, l []api.Command) int {
	for n, k := range l {
		if a, err := codec.ReadAnswer(s.Do(coded(k), nil)); err != api.OK || a.Code != api.OK {
			return n
		}
	}
	return len(l)
}

// crashes calls see with each disk that a stopped one may become in a crash.
func crashes(t *testing.T, d *vdisk.Disk, see func(*vdisk.Disk)) {
	t.Helper()
	for _, keeps := range [][]int{nil, {-1, 0}, {1, 1}, {0, 7}, {7, 0}, {8, 8}, {9, 9}, {12, 12}, {0, 99999}, {99999, 0}, {99999, 99999}} {
		c := d.Copy()
		ok(t, c.Crash(keeps))
		see(c)
	}
}

// TestP33_4EachChange lets the disk stop at each of its changes, those of opening and of snapshots among them.
func TestP33_4EachChange(t *testing.T) {
	l := crossed()
	last := imaged(30, changing(l)...)
	kept, lost := 0, 0
	for _, every := range []int{0, 1, 2, 5} {
		for fuse, done := 0, 0; done < len(l); fuse++ {
			d := disk(t, 100000)
			ok(t, d.Fuse(fuse))
			done = 0
			if s, err := server.Open(d, 30, every); err == api.OK {
				done = run(s, l)
			}
			before := imaged(30, changing(l[:done])...)
			after := imaged(30, changing(l[:min(done+1, len(l))])...)
			crashes(t, d, func(c *vdisk.Disk) {
				s := opened(t, c, 30, every)
				rest := done
				switch image := s.Image(); {
				case bytes.Equal(image, before):
					lost++
				case bytes.Equal(image, after):
					kept++
					rest++
				default:
					t.Fatalf("every %d, %d changes: the store is another one", every, fuse)
				}
				if run(s, l[rest:]) < len(l)-rest || !bytes.Equal(s.Image(), last) || !bytes.Equal(opened(t, c, 30, every).Image(), last) {
					t.Fatalf("every %d, %d changes: the server does not go on", every, fuse)
				}
			})
		}
	}
	if kept < 100 || lost < 100 {
		t.Error("the interrupted command was kept", kept, "times, and lost", lost, "times")
	}
}

// TestP33_4WhileOpening lets the disk stop again while the server is opened after a crash: that loses nothing more.
func TestP33_4WhileOpening(t *testing.T) {
	l := crossed()
	stopped := 0
	for fuse := range 60 {
		d := disk(t, 100000)
		ok(t, d.Fuse(fuse))
		if s, err := server.Open(d, 30, 3); err == api.OK {
			run(s, l)
		}
		crashes(t, d, func(c *vdisk.Disk) {
			want := opened(t, c.Copy(), 30, 3).Image()
			for again := range 4 {
				e := c.Copy()
				ok(t, e.Fuse(again))
				s, err := server.Open(e, 30, 3)
				if err != api.OK && err != api.ErrDead || (s == nil) != (err != api.OK) {
					t.Fatal(fuse, again, err)
				}
				if err == api.ErrDead {
					stopped++
				}
				ok(t, e.Crash([]int{again * 5, again * 5}))
				if !bytes.Equal(opened(t, e, 30, 3).Image(), want) {
					t.Fatal(fuse, again, "the store is another one")
				}
			}
		})
	}
	if stopped < 100 {
		t.Error("the disk stopped only", stopped, "times")
	}
}

// TestP33_4Full holds that on a disk of any size, what was answered OK is there after a crash, and that what was not has had no effect.
func TestP33_4Full(t *testing.T) {
	l := crossed()
	refused := 0
	whole := len(framed(imaged(30), allCoded(l...)...))
	for room := len(framed(imaged(30))); room < 2*whole; room += 41 {
		for _, every := range []int{0, 1, 4} {
			d := disk(t, room)
			s := opened(t, d, 30, every)
			var done []api.Command
			for _, k := range l {
				a, err := codec.ReadAnswer(s.Do(coded(k), nil))
				if err != api.OK {
					t.Fatal(k, err)
				}
				if a.Code == api.OK && k.Verb <= api.VerbTick {
					done = append(done, k)
				}
				if a.Code == api.ErrDisk {
					refused++
				}
				c := d.Copy()
				ok(t, c.Crash(nil))
				want := imaged(30, done...)
				if s.Stopped() || !bytes.Equal(s.Image(), want) || !bytes.Equal(opened(t, c, 30, every).Image(), want) {
					t.Fatalf("room %d, every %d, %v: the store is another one", room, every, k)
				}
			}
		}
	}
	if refused < 100 {
		t.Error("there was no room only", refused, "times")
	}
}
