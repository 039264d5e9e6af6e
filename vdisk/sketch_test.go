package vdisk

import (
	"math"
	"slices"
	"strings"
	"testing"

	"dossier/api"
)

// sketch is a disk as the chapter tells it, byte by byte: a small letter is synced, its capital is not.
type sketch struct {
	room, fuse int
	dead       bool
	files      map[string]string
}

func (s *sketch) used() int {
	n := 0
	for _, b := range s.files {
		n += len(b)
	}
	return n
}

// verdict is the error of a change with valid arguments.
func (s *sketch) verdict(name string, creates bool, more int) api.Errno {
	_, there := s.files[name]
	switch {
	case s.dead:
		return api.ErrDead
	case !there && !creates:
		return api.ErrNone
	case more > 0 && s.used()+more > s.room:
		return api.ErrDisk
	case s.fuse == 0:
		s.dead = true
		return api.ErrDead
	}
	s.fuse--
	return api.OK
}

func (s *sketch) crash(keeps []int) {
	var names []string
	for name := range s.files {
		names = append(names, name)
	}
	slices.Sort(names)
	for k, name := range names {
		keep := 0
		if k < len(keeps) {
			keep = keeps[k]
		}
		var b []byte
		for _, x := range []byte(s.files[name]) {
			if x >= 'a' {
				b = append(b, x)
			} else if keep > 0 {
				b = append(b, x+'a'-'A')
				keep--
			}
		}
		s.files[name] = string(b)
	}
	s.dead, s.fuse = false, -1
}

// dice is a short row of numbers that look like chance and are the same at each run.
type dice uint64

func (d *dice) roll(n int) int {
	*d = *d*6364136223846793005 + 1442695040888963407
	return int(*d>>33) % n
}

// step makes one call on both, and returns both errors.
func step(d *Disk, s *sketch, r *dice) (got, want api.Errno) {
	names := []string{"a", "b", "c", "d"}
	name, other := names[r.roll(4)], names[r.roll(4)]
	switch r.roll(12) {
	default:
		b := strings.Repeat(string(rune('A'+r.roll(26))), r.roll(5))
		if want = s.verdict(name, true, len(b)); want == api.OK {
			s.files[name] += b
		}
		return d.Append(name, []byte(strings.ToLower(b))), want
	case 1, 2:
		if want = s.verdict(name, false, 0); want == api.OK {
			s.files[name] = strings.ToLower(s.files[name])
		}
		return d.Sync(name), want
	case 3:
		if want = s.verdict(name, false, 0); want == api.OK && name != other {
			s.files[other] = s.files[name]
			delete(s.files, name)
		}
		return d.Rename(name, other), want
	case 4:
		n := r.roll(8)
		if want = s.verdict(name, false, 0); want == api.OK {
			s.files[name] = s.files[name][:min(n, len(s.files[name]))]
		}
		return d.Truncate(name, n), want
	case 5:
		if want = s.verdict(name, false, 0); want == api.OK {
			delete(s.files, name)
		}
		return d.Remove(name), want
	case 6:
		s.fuse = r.roll(9)
		return d.Fuse(s.fuse), api.OK
	case 7:
		keeps := []int{r.roll(7) - 1, r.roll(7) - 1, r.roll(7) - 1, math.MaxInt, 0}[:r.roll(6)]
		s.crash(keeps)
		return d.Crash(keeps), api.OK
	case 8:
		s.room = r.roll(30)
		return d.Room(s.room), api.OK
	}
}

func TestP3_2P3_3AnyCalls(t *testing.T) {
	for seed := range 300 {
		r := dice(seed)
		d, s := open(t, 20), &sketch{room: 20, fuse: -1, files: map[string]string{}}
		for i := range 200 {
			if r.roll(20) == 0 {
				d = d.Copy()
			}
			got, want := step(d, s, &r)
			if got != want || d.Dead() != s.dead || d.Used() != s.used() || len(d.Names()) != len(s.files) {
				t.Fatalf("seed %d, call %d: error %d, want %d; %d bytes, want %d", seed, i, got, want, d.Used(), s.used())
			}
			for name, b := range s.files {
				if got, err := d.Read(name); !s.dead && (string(got) != strings.ToLower(b) || err != api.OK) {
					t.Fatalf("seed %d, call %d: %s has %q, want %q", seed, i, name, got, b)
				}
			}
		}
	}
}

func TestP3_4SyncedBytesSurvive(t *testing.T) {
	for seed := range 200 {
		r := dice(seed)
		d, synced := open(t, 1000), ""
		for range 30 {
			b, err := d.Read("f")
			switch r.roll(4) {
			case 0:
				if err == api.OK {
					synced = string(b)
					ok(t, d.Sync("f"))
				}
			case 1:
				n := r.roll(20)
				if d.Truncate("f", n) == api.OK {
					synced = synced[:min(n, len(synced))]
				}
			case 2:
				ok(t, d.Append("f", []byte{byte('a' + r.roll(26))}))
			default:
				ok(t, d.Append("f", []byte(strings.Repeat(string(rune('a'+r.roll(26))), r.roll(9)))))
			}
		}
		all, _ := d.Read("f")
		for keep := -1; keep <= len(all)+1; keep++ {
			c := d.Copy()
			ok(t, c.Crash([]int{keep}))
			b, err := c.Read("f")
			if err != api.OK || !strings.HasPrefix(string(b), synced) || !strings.HasPrefix(string(all), string(b)) {
				t.Fatalf("seed %d: %q is left of %q, of which %q was synced", seed, b, all, synced)
			}
		}
	}
}

func TestP3_5Capacity(t *testing.T) {
	for seed := range 200 {
		r := dice(seed)
		d, room := open(t, 15), 15
		for i := range 200 {
			before := d.Used()
			switch name := string(rune('a' + r.roll(3))); r.roll(5) {
			case 0:
				d.Truncate(name, r.roll(9))
			case 1:
				d.Rename(name, "b")
			case 2:
				d.Sync(name)
			case 3:
				if i%10 == 0 {
					room = r.roll(20)
					ok(t, d.Room(room))
				}
			default:
				d.Append(name, make([]byte, r.roll(9)))
			}
			sum := 0
			for _, name := range d.Names() {
				b, _ := d.Read(name)
				sum += len(b)
			}
			if sum != d.Used() || sum > max(room, before) {
				t.Fatalf("seed %d: %d bytes, Used %d, before %d, capacity %d", seed, sum, d.Used(), before, room)
			}
		}
	}
}
