package journal

import (
	"slices"
	"strings"
	"testing"

	"dossier/api"
	"dossier/vdisk"
)

// script is a row of calls: "=x" is Compact of x, anything else Append of it.
var script = []string{"a", "bc", "=def", "g", "=", "hi", "j", "=klmnopqrstu", "v"}

func call(j *Journal, s string) api.Errno {
	if b, compact := strings.CutPrefix(s, "="); compact {
		return j.Compact([]byte(b))
	}
	return j.Append([]byte(s))
}

// after is what a journal has behind the first n calls of the script.
func after(n int) string {
	s := "first"
	for _, x := range script[:n] {
		if b, compact := strings.CutPrefix(x, "="); compact {
			s = b
		} else {
			s += "|" + x
		}
	}
	return s
}

// run makes the calls of the script until the disk stops, and returns how many were answered OK, -1 if Open was not.
func run(d *vdisk.Disk) int {
	j, err := Open(d, []byte("first"))
	if err != api.OK {
		return -1
	}
	for i, s := range script {
		if call(j, s) != api.OK {
			return i
		}
	}
	return len(script)
}

// crashes calls see with each disk that a stopped one may become in a crash.
func crashes(t *testing.T, d *vdisk.Disk, see func(*vdisk.Disk)) {
	t.Helper()
	for a := range 30 {
		for _, b := range []int{-1, 0, 1, 7, 8, 9, 10, 19, 99} {
			c := d.Copy()
			ok(t, c.Crash([]int{a - 1, b}))
			see(c)
		}
	}
}

// reopened returns what a journal has, and fails unless it can go on.
func reopened(t *testing.T, d *vdisk.Disk) string {
	t.Helper()
	j := open(t, d, "first")
	got := contents(j)
	ok(t, j.Append([]byte("more")), d.Crash(nil))
	holds(t, open(t, d, "first"), got, "more")
	return got
}

func TestP4_4CrashAtEveryChange(t *testing.T) {
	finished := false
	for n := 0; !finished; n++ {
		d := disk(t, 1000)
		ok(t, d.Fuse(n))
		done := run(d)
		finished = done == len(script)
		allowed := []string{"first"}
		if done >= 0 {
			allowed = []string{after(done), after(min(done+1, len(script)))}
		}
		crashes(t, d, func(c *vdisk.Disk) {
			if got := reopened(t, c); !slices.Contains(allowed, got) {
				t.Fatalf("a crash behind %d changes: %q, allowed %q", n, got, allowed)
			}
		})
	}
}

func TestP4_4CrashWhileReopening(t *testing.T) {
	for n := range 30 {
		d := disk(t, 1000)
		ok(t, d.Fuse(n))
		done := run(d)
		crashes(t, d, func(c *vdisk.Disk) {
			allowed := contents(open(t, c.Copy(), "first"))
			for again := range 4 {
				e := c.Copy()
				ok(t, e.Fuse(again))
				if _, err := Open(e, []byte("first")); err != api.OK && err != api.ErrDead {
					t.Fatalf("crashes behind %d and %d changes: error %d", n, again, err)
				}
				ok(t, e.Crash([]int{again * 5, again * 5}))
				if got := contents(open(t, e, "first")); got != allowed {
					t.Fatalf("crashes behind %d and %d changes, %d calls: %q, was %q", n, again, done, got, allowed)
				}
			}
		})
	}
}

func TestP4_4FullDiskLosesNothing(t *testing.T) {
	for room := 13; room < 80; room++ {
		d := disk(t, room)
		j, want := open(t, d, "first"), []string{"first"}
		for _, s := range script {
			before := contents(j)
			switch err := call(j, s); err {
			case api.OK:
				if b, compact := strings.CutPrefix(s, "="); compact {
					want = []string{b}
				} else {
					want = append(want, s)
				}
			case api.ErrDisk:
				holds(t, j, before)
			default:
				t.Fatalf("room %d: error %d", room, err)
			}
			holds(t, j, want...)
			c := d.Copy()
			ok(t, c.Crash(nil))
			holds(t, open(t, c, ""), want...)
		}
	}
}
