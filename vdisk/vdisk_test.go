package vdisk

import (
	"math"
	"slices"
	"strconv"
	"strings"
	"testing"

	"dossier/api"
)

func open(t *testing.T, room int) *Disk {
	t.Helper()
	d, err := New(room)
	if err != api.OK || d == nil {
		t.Fatal("New", room, err)
	}
	return d
}

// ok fails if a call of several has an error.
func ok(t *testing.T, l ...api.Errno) {
	t.Helper()
	for i, err := range l {
		if err != api.OK {
			t.Fatalf("call %d: error %d", i, err)
		}
	}
}

func want(t *testing.T, got, want api.Errno) {
	t.Helper()
	if got != want {
		t.Errorf("error %d, want %d", got, want)
	}
}

// listing is all that a running disk shows of its files.
func listing(d *Disk) string {
	s := strconv.Itoa(d.Used())
	for _, name := range d.Names() {
		b, err := d.Read(name)
		s += " " + name + "=" + string(b)
		if err != api.OK {
			s += "?" + strconv.Itoa(int(err))
		}
	}
	return s
}

func has(t *testing.T, d *Disk, want string) {
	t.Helper()
	if got := listing(d); got != want {
		t.Errorf("the disk has %q, want %q", got, want)
	}
}

// changes are all kinds of changes, of a file that is there and in a way that succeeds.
func changes(d *Disk) []func() api.Errno {
	return []func() api.Errno{
		func() api.Errno { return d.Append("a", []byte("x")) },
		func() api.Errno { return d.Append("a", nil) },
		func() api.Errno { return d.Append("new", nil) },
		func() api.Errno { return d.Sync("a") },
		func() api.Errno { return d.Rename("a", "z") },
		func() api.Errno { return d.Rename("a", "a") },
		func() api.Errno { return d.Rename("a", "b") },
		func() api.Errno { return d.Truncate("a", 1) },
		func() api.Errno { return d.Truncate("a", 100) },
		func() api.Errno { return d.Remove("a") },
	}
}

// two is a disk with the files a, of 2 synced and 2 further bytes, and b, of 1 synced one.
func two(t *testing.T) *Disk {
	t.Helper()
	d := open(t, 20)
	ok(t, d.Append("a", []byte("12")), d.Sync("a"), d.Append("a", []byte("34")), d.Append("b", []byte("5")), d.Sync("b"))
	return d
}

var tooLong = strings.Repeat("n", api.MaxName+1)

func TestP3_1New(t *testing.T) {
	for _, room := range []int{-1, math.MinInt, api.MaxRoom + 1, math.MaxInt, 1 << 32} {
		if d, err := New(room); d != nil || err != api.ErrArg {
			t.Errorf("New(%d) = %v, %d", room, d, err)
		}
	}
	for _, room := range []int{0, 1, 7, api.MaxRoom} {
		d := open(t, room)
		if len(d.Names()) != 0 || d.Used() != 0 || d.Dead() {
			t.Errorf("New(%d) is not empty", room)
		}
		want(t, d.Append("f", make([]byte, room+1)), api.ErrDisk)
		if len(d.Names()) != 0 {
			t.Errorf("a file that did not fit is there: %v", d.Names())
		}
		want(t, d.Append("f", make([]byte, room)), api.OK)
		want(t, d.Append("g", []byte{1}), api.ErrDisk)
		if d.Used() != room {
			t.Errorf("Used = %d, want %d", d.Used(), room)
		}
	}
}

func TestP3_1Room(t *testing.T) {
	d := open(t, 4)
	ok(t, d.Append("f", []byte("1234")))
	for _, n := range []int{-1, math.MinInt, api.MaxRoom + 1, math.MaxInt} {
		want(t, d.Room(n), api.ErrArg)
	}
	want(t, d.Append("f", []byte("5")), api.ErrDisk)
	want(t, d.Room(5), api.OK)
	want(t, d.Append("f", []byte("56")), api.ErrDisk)
	want(t, d.Append("f", []byte("5")), api.OK)
	want(t, d.Room(2), api.OK)
	has(t, d, "5 f=12345")
	want(t, d.Append("f", []byte("6")), api.ErrDisk)
	want(t, d.Append("f", nil), api.OK)
	want(t, d.Append("g", []byte{}), api.OK)
	ok(t, d.Truncate("f", 1))
	want(t, d.Append("g", []byte("67")), api.ErrDisk)
	want(t, d.Append("g", []byte("6")), api.OK)
	want(t, d.Room(0), api.OK)
	want(t, d.Append("g", []byte("7")), api.ErrDisk)
	want(t, d.Room(api.MaxRoom), api.OK)
	want(t, d.Append("g", make([]byte, api.MaxRoom-2)), api.OK)
	want(t, d.Append("g", make([]byte, 1)), api.ErrDisk)
}

func TestP3_1RoomOfStoppedDisk(t *testing.T) {
	d := open(t, 0)
	ok(t, d.Fuse(0))
	want(t, d.Append("f", nil), api.ErrDead)
	want(t, d.Room(-1), api.ErrArg)
	want(t, d.Room(3), api.OK)
	if !d.Dead() {
		t.Error("Room restarted the disk")
	}
	ok(t, d.Crash(nil))
	want(t, d.Append("f", []byte("123")), api.OK)
}

func TestP3_2OrderOfErrors(t *testing.T) {
	var none *Disk
	for _, d := range []*Disk{none, {}} {
		for _, err := range []api.Errno{d.Append("", nil), d.Append("a", nil), d.Sync("a"), d.Sync(""), d.Rename("a", ""), d.Rename("a", "b"), d.Truncate("a", -1), d.Truncate("a", 0), d.Remove("a"), d.Fuse(-1), d.Fuse(0), d.Room(-1), d.Room(0), d.Crash(nil)} {
			want(t, err, api.ErrNil)
		}
	}
	arguments := func(d *Disk, err api.Errno) {
		t.Helper()
		for _, got := range []api.Errno{d.Append("", []byte("x")), d.Append(tooLong, nil), d.Rename("none", ""), d.Rename("a", tooLong), d.Rename("", ""), d.Truncate("a", -1), d.Truncate("none", math.MinInt)} {
			want(t, got, err)
		}
	}
	missing := func(d *Disk, err api.Errno) {
		t.Helper()
		for _, got := range []api.Errno{d.Sync("none"), d.Sync(""), d.Sync(tooLong), d.Rename("none", "a"), d.Rename("none", "none"), d.Rename("", "a"), d.Rename(tooLong, "a"), d.Truncate("none", 0), d.Truncate("", 0), d.Remove("none"), d.Remove(""), d.Remove(tooLong)} {
			want(t, got, err)
		}
	}
	d := two(t)
	arguments(d, api.ErrArg)
	missing(d, api.ErrNone)
	has(t, d, "5 a=1234 b=5")
	ok(t, d.Fuse(0))
	want(t, d.Sync("a"), api.ErrDead)
	arguments(d, api.ErrArg)
	missing(d, api.ErrDead)
	want(t, d.Append("a", make([]byte, 100)), api.ErrDead)
	for i, change := range changes(d) {
		if err := change(); err != api.ErrDead {
			t.Errorf("change %d of a stopped disk: error %d", i, err)
		}
	}
	ok(t, d.Crash([]int{9, 9}))
	has(t, d, "5 a=1234 b=5")
}

func TestP3_2NamesOfFiles(t *testing.T) {
	d := open(t, 100)
	most := strings.Repeat("m", api.MaxName)
	for _, name := range []string{"a", "\x00", "\xff", " ", "/", most} {
		ok(t, d.Append(name, []byte("1")))
	}
	want(t, d.Append(tooLong, []byte("1")), api.ErrArg)
	want(t, d.Append("", []byte("1")), api.ErrArg)
	ok(t, d.Rename("a", most[1:]+"z"))
	want(t, d.Rename(most, tooLong), api.ErrArg)
	if got := d.Names(); !slices.Equal(got, []string{"\x00", " ", "/", most, most[1:] + "z", "\xff"}) {
		t.Errorf("Names = %q", got)
	}
}

func TestP3_2Append(t *testing.T) {
	d := open(t, 8)
	ok(t, d.Append("f", []byte("12")), d.Append("g", nil), d.Append("f", []byte("3")), d.Append("f", nil))
	has(t, d, "3 f=123 g=")
	want(t, d.Append("g", []byte("456789")), api.ErrDisk)
	has(t, d, "3 f=123 g=")
	ok(t, d.Append("g", []byte("45678")))
	has(t, d, "8 f=123 g=45678")
	want(t, d.Append("h", []byte("9")), api.ErrDisk)
	ok(t, d.Append("h", nil))
	has(t, d, "8 f=123 g=45678 h=")
}

func TestP3_2Sync(t *testing.T) {
	d := open(t, 20)
	ok(t, d.Append("f", []byte("12")), d.Append("g", []byte("3")), d.Sync("f"), d.Sync("f"), d.Append("f", []byte("4")))
	has(t, d, "4 f=124 g=3")
	ok(t, d.Crash(nil))
	has(t, d, "2 f=12 g=")
	ok(t, d.Sync("g"), d.Crash(nil))
	has(t, d, "2 f=12 g=")
}

func TestP3_2Rename(t *testing.T) {
	d := two(t)
	ok(t, d.Rename("a", "c"))
	has(t, d, "5 b=5 c=1234")
	want(t, d.Sync("a"), api.ErrNone)
	ok(t, d.Rename("c", "b"))
	has(t, d, "4 b=1234")
	ok(t, d.Rename("b", "b"))
	has(t, d, "4 b=1234")
	ok(t, d.Crash([]int{1}))
	has(t, d, "3 b=123")
}

func TestP3_2RenameSurvives(t *testing.T) {
	d := two(t)
	ok(t, d.Rename("a", "b"), d.Crash(nil))
	has(t, d, "2 b=12")
	d = open(t, 9)
	ok(t, d.Append("a", []byte("1")), d.Rename("a", "b"), d.Crash(nil))
	has(t, d, "0 b=")
	d = two(t)
	ok(t, d.Rename("b", "a"), d.Append("a", []byte("67")), d.Crash([]int{1}))
	has(t, d, "2 a=56")
}

func TestP3_2Truncate(t *testing.T) {
	d := two(t)
	ok(t, d.Truncate("a", 4), d.Truncate("a", math.MaxInt), d.Truncate("b", 2))
	has(t, d, "5 a=1234 b=5")
	ok(t, d.Truncate("a", 3))
	has(t, d, "4 a=123 b=5")
	ok(t, d.Append("a", []byte("xy")), d.Crash([]int{2}))
	has(t, d, "5 a=123x b=5")
	ok(t, d.Truncate("a", 1), d.Append("a", []byte("uvw")))
	has(t, d, "5 a=1uvw b=5")
	ok(t, d.Crash(nil))
	has(t, d, "2 a=1 b=5")
	ok(t, d.Truncate("a", 0), d.Append("a", []byte("q")), d.Crash(nil))
	has(t, d, "1 a= b=5")
}

func TestP3_2LargeFiles(t *testing.T) {
	d := open(t, api.MaxRoom)
	ok(t, d.Append("f", make([]byte, 3_000_000)), d.Sync("f"), d.Append("f", make([]byte, 1_000_000)))
	ok(t, d.Truncate("f", 3_900_000), d.Crash([]int{800_000}), d.Append("g", make([]byte, 300_000)), d.Rename("g", "h"))
	if b, _ := d.Read("f"); len(b) != 3_800_000 || d.Used() != 4_100_000 {
		t.Error(len(b), d.Used())
	}
}

func TestP3_2TruncateDoesNotSync(t *testing.T) {
	d := two(t)
	ok(t, d.Truncate("a", 3), d.Crash(nil))
	has(t, d, "3 a=12 b=5")
	d = two(t)
	ok(t, d.Truncate("a", 9), d.Crash(nil))
	has(t, d, "3 a=12 b=5")
}

func TestP3_2Remove(t *testing.T) {
	d := two(t)
	ok(t, d.Remove("a"))
	has(t, d, "1 b=5")
	want(t, d.Remove("a"), api.ErrNone)
	if _, err := d.Read("a"); err != api.ErrNone {
		t.Error("Read of a removed file", err)
	}
	ok(t, d.Crash([]int{9, 9}))
	has(t, d, "1 b=5")
	ok(t, d.Append("a", []byte("7")))
	has(t, d, "2 a=7 b=5")
	ok(t, d.Crash(nil))
	has(t, d, "1 a= b=5")
}

func TestP3_3Read(t *testing.T) {
	var none *Disk
	for _, d := range []*Disk{none, {}} {
		if b, err := d.Read("a"); len(b) != 0 || err != api.ErrNil {
			t.Error("Read of no disk", b, err)
		}
	}
	d := two(t)
	if b, err := d.Read("a"); string(b) != "1234" || err != api.OK {
		t.Error(b, err)
	}
	for _, name := range []string{"none", "", tooLong} {
		if b, err := d.Read(name); len(b) != 0 || err != api.ErrNone {
			t.Error("Read of a file that is not there", b, err)
		}
	}
	ok(t, d.Fuse(0))
	want(t, d.Sync("a"), api.ErrDead)
	for _, name := range []string{"a", "none", ""} {
		if b, err := d.Read(name); len(b) != 0 || err != api.ErrDead {
			t.Error("Read of a stopped disk", b, err)
		}
	}
}

func TestP3_3NamesAndUsedOfStoppedDisk(t *testing.T) {
	d := two(t)
	ok(t, d.Fuse(0))
	want(t, d.Remove("a"), api.ErrDead)
	if !d.Dead() || d.Used() != 5 || !slices.Equal(d.Names(), []string{"a", "b"}) {
		t.Error(d.Dead(), d.Used(), d.Names())
	}
}

func TestP3_3NamesAscend(t *testing.T) {
	d := open(t, 0)
	l := []string{"b", "a", "B", "ab", "a\x00", "\u00e9", "\xff", "10", "9", "aa"}
	for i, name := range l {
		ok(t, d.Append(name, nil))
		got := slices.Clone(l[:i+1])
		slices.Sort(got)
		if !slices.Equal(d.Names(), got) {
			t.Fatalf("Names = %q", d.Names())
		}
	}
}

func TestP3_3FuseCountsEveryChange(t *testing.T) {
	for i := range changes(two(t)) {
		for n := range 3 {
			d := two(t)
			ok(t, d.Fuse(n))
			for range n {
				ok(t, d.Append("b", nil))
			}
			if d.Dead() {
				t.Fatal("the fuse blows early")
			}
			before := listing(d)
			if err := changes(d)[i](); err != api.ErrDead || !d.Dead() {
				t.Errorf("change %d behind %d others: error %d, stopped %t", i, n, err, d.Dead())
			}
			ok(t, d.Crash([]int{9, 9, 9}))
			if got := listing(d); got != before {
				t.Errorf("change %d had an effect: %q, was %q", i, got, before)
			}
			d = two(t)
			ok(t, d.Fuse(1), changes(d)[i]())
			if err := d.Append("b", nil); err != api.ErrDead {
				t.Errorf("change %d does not count", i)
			}
		}
	}
}

func TestP3_3FuseIgnoresErrors(t *testing.T) {
	d := two(t)
	ok(t, d.Fuse(1))
	for range 3 {
		want(t, d.Append("", nil), api.ErrArg)
		want(t, d.Append("a", make([]byte, 16)), api.ErrDisk)
		want(t, d.Sync("none"), api.ErrNone)
		want(t, d.Rename("none", "a"), api.ErrNone)
		want(t, d.Rename("a", ""), api.ErrArg)
		want(t, d.Truncate("a", -1), api.ErrArg)
		want(t, d.Truncate("none", 1), api.ErrNone)
		want(t, d.Remove("none"), api.ErrNone)
		want(t, d.Fuse(-1), api.ErrArg)
		want(t, d.Room(-1), api.ErrArg)
		want(t, d.Room(20), api.OK)
		d.Read("a")
		d.Names()
		d.Copy()
	}
	want(t, d.Sync("a"), api.OK)
	want(t, d.Append("a", make([]byte, 16)), api.ErrDisk)
	want(t, d.Remove("none"), api.ErrNone)
	if d.Dead() {
		t.Error("an error blows the fuse")
	}
	want(t, d.Sync("a"), api.ErrDead)
}

func TestP3_3FuseIsReplaced(t *testing.T) {
	d := two(t)
	ok(t, d.Fuse(0), d.Fuse(2), d.Sync("a"), d.Fuse(3), d.Sync("a"), d.Sync("a"), d.Sync("a"))
	want(t, d.Sync("a"), api.ErrDead)
	want(t, d.Fuse(-1), api.ErrArg)
	want(t, d.Fuse(5), api.OK)
	want(t, d.Sync("a"), api.ErrDead)
	d = two(t)
	ok(t, d.Fuse(1))
	want(t, d.Fuse(math.MinInt), api.ErrArg)
	ok(t, d.Sync("a"))
	want(t, d.Sync("a"), api.ErrDead)
	d = two(t)
	ok(t, d.Fuse(math.MaxInt))
	for range 100 {
		ok(t, d.Sync("a"))
	}
}

func TestP3_3CrashRestarts(t *testing.T) {
	d := two(t)
	ok(t, d.Fuse(0))
	want(t, d.Sync("a"), api.ErrDead)
	ok(t, d.Fuse(0), d.Crash(nil))
	if d.Dead() {
		t.Error("stopped after a crash")
	}
	ok(t, d.Sync("a"), d.Append("a", []byte("x")))
	ok(t, d.Fuse(0), d.Crash(nil), d.Sync("a"))
	has(t, d, "3 a=12 b=5")
}

func TestP3_3Example(t *testing.T) {
	d := open(t, 100)
	ok(t, d.Append("f", []byte("abc")), d.Crash([]int{2}))
	has(t, d, "2 f=ab")
}

func TestP3_3CrashKeeps(t *testing.T) {
	for _, x := range []struct {
		keeps []int
		want  string
	}{
		{nil, "3 a=12 b=5 c="},
		{[]int{}, "3 a=12 b=5 c="},
		{[]int{0}, "3 a=12 b=5 c="},
		{[]int{1}, "4 a=123 b=5 c="},
		{[]int{2, 0, 1}, "6 a=1234 b=5 c=6"},
		{[]int{3, 5, 2}, "7 a=1234 b=5 c=67"},
		{[]int{math.MaxInt, math.MaxInt, math.MaxInt, math.MaxInt}, "8 a=1234 b=5 c=678"},
		{[]int{-1, -1, -1}, "3 a=12 b=5 c="},
		{[]int{math.MinInt, 0, 3}, "6 a=12 b=5 c=678"},
		{[]int{0, 0, 0, 9}, "3 a=12 b=5 c="},
	} {
		d := two(t)
		ok(t, d.Append("c", []byte("678")), d.Crash(x.keeps))
		has(t, d, x.want)
		ok(t, d.Append("a", []byte("x")), d.Crash(nil))
		has(t, d, x.want)
	}
}

func TestP3_3CrashOrder(t *testing.T) {
	d := open(t, 100)
	for _, name := range []string{"c", "a", "b", "B", "ab"} {
		ok(t, d.Append(name, []byte("1234")))
	}
	ok(t, d.Crash([]int{0, 1, 2, 3, 4}))
	has(t, d, "10 B= a=1 ab=12 b=123 c=1234")
}

func TestP3_3Copy(t *testing.T) {
	d := two(t)
	ok(t, d.Fuse(1))
	c := d.Copy()
	ok(t, c.Append("a", []byte("c")))
	ok(t, d.Append("a", []byte("d")))
	want(t, c.Append("b", []byte("c")), api.ErrDead)
	if d.Dead() || !c.Dead() {
		t.Error("stopped", d.Dead(), c.Dead())
	}
	dead := c.Copy()
	if !dead.Dead() || dead.Used() != 6 || len(dead.Names()) != 2 {
		t.Error("copy of a stopped disk")
	}
	want(t, d.Sync("a"), api.ErrDead)
	ok(t, c.Crash([]int{9}), c.Room(5), c.Append("new", nil), c.Remove("b"))
	want(t, c.Append("new", []byte("1")), api.ErrDisk)
	has(t, c, "5 a=1234c new=")
	ok(t, d.Crash([]int{9}), d.Append("a", make([]byte, 14)))
	want(t, d.Append("a", []byte("1")), api.ErrDisk)
	ok(t, d.Truncate("a", 5))
	has(t, d, "6 a=1234d b=5")
	ok(t, dead.Crash(nil))
	has(t, dead, "3 a=12 b=5")
}

func TestP3_3DiskOfNoCall(t *testing.T) {
	var none *Disk
	for _, d := range []*Disk{none, {}, new(Disk)} {
		if !d.Dead() || len(d.Names()) != 0 || d.Copy() != nil || d.Used() != 0 {
			t.Error(d.Dead(), d.Names(), d.Copy(), d.Used())
		}
	}
}

func TestP3_3Memory(t *testing.T) {
	d := open(t, 100)
	whole := []byte("abcdef")
	ok(t, d.Append("f", whole[:3]), d.Append("f", whole[:1]))
	if string(whole) != "abcdef" {
		t.Error("Append modified its argument", string(whole))
	}
	whole[0] = 'x'
	has(t, d, "4 f=abca")
	b, _ := d.Read("f")
	other, _ := d.Read("f")
	b[0] = 'x'
	_ = append(b, 'y')
	ok(t, d.Append("f", []byte("z")))
	has(t, d, "5 f=abcaz")
	if string(other) != "abca" {
		t.Error("two results share memory")
	}
	keeps := []int{1, 2}
	ok(t, d.Crash(keeps[:1]))
	if !slices.Equal(keeps, []int{1, 2}) {
		t.Error("Crash modified its argument", keeps)
	}
	l := d.Names()
	l[0] = "x"
	if d.Names()[0] != "f" {
		t.Error("Names shares memory")
	}
	c := d.Copy()
	ok(t, c.Truncate("f", 0), c.Append("f", []byte("q")), d.Append("f", []byte("r")))
	has(t, c, "1 f=q")
	has(t, d, "2 f=ar")
}
