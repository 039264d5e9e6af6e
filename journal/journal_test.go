package journal

import (
	"bytes"
	"encoding/binary"
	"hash/crc32"
	"slices"
	"strconv"
	"strings"
	"testing"

	"dossier/api"
	"dossier/vdisk"
)

func disk(t *testing.T, room int) *vdisk.Disk {
	t.Helper()
	d, err := vdisk.New(room)
	if err != api.OK {
		t.Fatal("vdisk.New", err)
	}
	return d
}

func open(t *testing.T, d *vdisk.Disk, first string) *Journal {
	t.Helper()
	j, err := Open(d, []byte(first))
	if err != api.OK || j == nil {
		t.Fatalf("Open: error %d", err)
	}
	return j
}

func ok(t *testing.T, l ...api.Errno) {
	t.Helper()
	for i, err := range l {
		if err != api.OK {
			t.Fatalf("call %d: error %d", i, err)
		}
	}
}

func want(t *testing.T, got, want api.Errno) {
	t.Helper()
	if got != want {
		t.Errorf("error %d, want %d", got, want)
	}
}

// framed is the frames of some texts, one behind another.
func framed(l ...string) string {
	var b []byte
	for _, s := range l {
		b = binary.BigEndian.AppendUint32(b, uint32(len(s)))
		b = binary.BigEndian.AppendUint32(b, crc32.ChecksumIEEE([]byte(s)))
		b = append(b, s...)
	}
	return string(b)
}

// holds fails unless a journal has the snapshot l[0] and the records behind it.
func holds(t *testing.T, j *Journal, l ...string) {
	t.Helper()
	if got := contents(j); got != strings.Join(l, "|") {
		t.Errorf("the journal has %q, want %q", got, l)
	}
}

func contents(j *Journal) string {
	s := string(j.Snapshot())
	for _, b := range j.Records() {
		s += "|" + string(b)
	}
	return s
}

// keeps fails unless a disk has the file "journal" with these bytes, and no other file.
func keeps(t *testing.T, d *vdisk.Disk, b string) {
	t.Helper()
	got, err := d.Read("journal")
	if string(got) != b || err != api.OK || !slices.Equal(d.Names(), []string{"journal"}) {
		t.Errorf("the files %q, and journal has % x, error %d, want % x", d.Names(), got, err, b)
	}
}

// written is a disk with a file "journal" of these bytes, all of them synced.
func written(t *testing.T, b string) *vdisk.Disk {
	t.Helper()
	d := disk(t, api.MaxRoom)
	ok(t, d.Append("journal", []byte(b)), d.Sync("journal"))
	return d
}

// stop makes the disk stop.
func stop(t *testing.T, d *vdisk.Disk) {
	t.Helper()
	ok(t, d.Fuse(0))
	want(t, d.Append("other", nil), api.ErrDead)
}

func TestP4_1Example(t *testing.T) {
	d := disk(t, 100)
	open(t, d, "")
	keeps(t, d, "\x00\x00\x00\x00\x00\x00\x00\x00")
}

func TestP4_1FramesOnDisk(t *testing.T) {
	d := disk(t, api.MaxRoom)
	j := open(t, d, "123456789")
	keeps(t, d, "\x00\x00\x00\x09\xcb\xf4\x39\x26123456789")
	long := strings.Repeat("long", 20000)
	ok(t, j.Append([]byte("a\x00b")), j.Append([]byte(long)))
	keeps(t, d, framed("123456789", "a\x00b", long))
	ok(t, j.Compact([]byte(long[:258])))
	keeps(t, d, framed(long[:258]))
	ok(t, j.Append([]byte{0}))
	keeps(t, d, framed(long[:258], "\x00"))
}

func TestP4_1NoDisk(t *testing.T) {
	for _, d := range []*vdisk.Disk{nil, {}} {
		for _, first := range [][]byte{nil, make([]byte, api.MaxRoom+1)} {
			if j, err := Open(d, first); j != nil || err != api.ErrNil {
				t.Error(j, err)
			}
		}
	}
}

func TestP4_1StoppedDisk(t *testing.T) {
	for _, first := range [][]byte{nil, make([]byte, api.MaxRoom+1)} {
		for _, file := range []string{"other", "journal", "journal.new"} {
			d := disk(t, api.MaxRoom)
			ok(t, d.Append(file, nil))
			stop(t, d)
			if j, err := Open(d, first); j != nil || err != api.ErrDead {
				t.Error(j, err)
			}
		}
	}
}

func TestP4_1RemovesDraft(t *testing.T) {
	for _, draft := range []string{"", "rubbish", framed("valid")} {
		d := written(t, framed("s", "r"))
		ok(t, d.Append("journal.new", []byte(draft)))
		holds(t, open(t, d, "first"), "s", "r")
		keeps(t, d, framed("s", "r"))
		d = disk(t, 100)
		ok(t, d.Append("journal.new", []byte(draft)))
		holds(t, open(t, d, "first"), "first")
		keeps(t, d, framed("first"))
	}
}

func TestP4_1DraftMakesRoom(t *testing.T) {
	d := disk(t, 10)
	ok(t, d.Append("journal.new", make([]byte, 10)))
	open(t, d, "ab")
	keeps(t, d, framed("ab"))
}

func TestP4_1OtherFilesStay(t *testing.T) {
	d := disk(t, 100)
	for _, name := range []string{"journal.old", "Journal", "journal.new2"} {
		ok(t, d.Append(name, []byte("1")))
	}
	ok(t, open(t, d, "first").Compact([]byte("second")))
	if got := d.Names(); !slices.Equal(got, []string{"Journal", "journal", "journal.new2", "journal.old"}) {
		t.Error(got)
	}
}

func TestP4_1OpenWithoutChange(t *testing.T) {
	d := written(t, framed("s", "r"))
	ok(t, d.Fuse(0))
	holds(t, open(t, d, "first"), "s", "r")
	if d.Dead() {
		t.Error("Open changed the disk")
	}
}

func TestP4_1TooLongFirst(t *testing.T) {
	d := disk(t, api.MaxRoom)
	ok(t, d.Append("journal.new", []byte("x")))
	if j, err := Open(d, make([]byte, api.MaxRoom+1)); j != nil || err != api.ErrArg {
		t.Error(j, err)
	}
	if len(d.Names()) != 0 {
		t.Error("files", d.Names())
	}
	if j, err := Open(d, make([]byte, api.MaxRoom)); j != nil || err != api.ErrDisk {
		t.Error(j, err)
	}
	if j, err := Open(d, make([]byte, api.MaxRoom-8)); err != api.OK || len(j.Snapshot()) != api.MaxRoom-8 {
		t.Error(err)
	}
	if j, err := Open(d, make([]byte, api.MaxRoom+1)); err != api.OK || len(j.Snapshot()) != api.MaxRoom-8 {
		t.Error(err)
	}
}

func TestP4_1CreatesAsCompact(t *testing.T) {
	for n := range 3 {
		d := disk(t, 100)
		ok(t, d.Fuse(n))
		if j, err := Open(d, []byte("first")); j != nil || err != api.ErrDead {
			t.Error(n, j, err)
		}
		ok(t, d.Crash([]int{99}))
		if _, err := d.Read("journal"); err != api.ErrNone {
			t.Error("journal is there behind", n, "changes")
		}
	}
	d := disk(t, 100)
	ok(t, d.Fuse(3))
	open(t, d, "first")
	ok(t, d.Crash(nil))
	keeps(t, d, framed("first"))
}

func TestP4_1NoRoom(t *testing.T) {
	d := disk(t, 12)
	ok(t, d.Append("journal.new", []byte("123")))
	if j, err := Open(d, []byte("first")); j != nil || err != api.ErrDisk {
		t.Error(j, err)
	}
	if len(d.Names()) != 0 || d.Dead() {
		t.Error("files", d.Names())
	}
	ok(t, d.Room(13))
	open(t, d, "first")
	keeps(t, d, framed("first"))
}

func TestP4_1DiskStopsDuringOpen(t *testing.T) {
	torn := framed("s", "r") + "x"
	for n := range 2 {
		d := written(t, torn)
		ok(t, d.Append("journal.new", nil), d.Fuse(n))
		if j, err := Open(d, nil); j != nil || err != api.ErrDead {
			t.Errorf("fuse %d: %v, error %d", n, j, err)
		}
		ok(t, d.Crash(nil))
		if _, err := d.Read("journal.new"); (err == api.ErrNone) != (n == 1) {
			t.Errorf("fuse %d: journal.new, error %d", n, err)
		}
		if got, _ := d.Read("journal"); string(got) != torn {
			t.Errorf("fuse %d: journal has %q", n, got)
		}
	}
	d := written(t, torn)
	ok(t, d.Append("journal.new", nil), d.Fuse(2))
	holds(t, open(t, d, ""), "s", "r")
	want(t, d.Sync("journal"), api.ErrDead)
}

func TestP4_1EveryCut(t *testing.T) {
	all := []string{"snap", "one", "second", "3"}
	whole := framed(all...)
	for size := range len(whole) + 1 {
		n := 0
		for n < len(all) && len(framed(all[:n+1]...)) <= size {
			n++
		}
		d := written(t, whole[:size])
		j, err := Open(d, []byte("first"))
		if n == 0 {
			if j != nil || err != api.ErrLog {
				t.Errorf("%d bytes: %v, error %d", size, j, err)
			}
			keeps(t, d, whole[:size])
			continue
		}
		if err != api.OK {
			t.Fatalf("%d bytes: error %d", size, err)
		}
		holds(t, j, all[:n]...)
		keeps(t, d, framed(all[:n]...))
		ok(t, j.Append([]byte("more")))
		keeps(t, d, framed(append(slices.Clone(all[:n]), "more")...))
	}
}

func TestP4_1EveryWrongByte(t *testing.T) {
	all := []string{"snap", "one", "second"}
	whole := framed(all...)
	for at := range len(whole) {
		for _, mask := range []byte{1, 0x80, 0xff} {
			b := []byte(whole)
			b[at] ^= mask
			n := 0
			for len(framed(all[:n+1]...)) <= at {
				n++
			}
			d := written(t, string(b))
			j, err := Open(d, nil)
			if n == 0 {
				if j != nil || err != api.ErrLog {
					t.Errorf("byte %d: %v, error %d", at, j, err)
				}
				keeps(t, d, string(b))
				continue
			}
			if err != api.OK {
				t.Fatalf("byte %d: error %d", at, err)
			}
			holds(t, j, all[:n]...)
			keeps(t, d, framed(all[:n]...))
		}
	}
}

func TestP4_1FramesThatLie(t *testing.T) {
	sum := func(s string) string {
		return string(binary.BigEndian.AppendUint32(nil, crc32.ChecksumIEEE([]byte(s))))
	}
	for _, bad := range []string{
		"\x00\x00\x00\x05" + sum("abcd") + "abcd",
		"\x00\x00\x00\x03" + sum("abcd") + "abcd",
		"\xff\xff\xff\xff" + sum("abcd") + "abcd",
		"\x80\x00\x00\x04" + sum("abcd") + "abcd",
		"\x04\x00\x00\x00" + sum("abcd") + "abcd",
		sum("abcd") + "\x00\x00\x00\x04abcd",
		"\x00\x00\x00\x00\x00\x00\x00\x01",
		"abcd", "\x00",
	} {
		d := written(t, bad)
		if j, err := Open(d, nil); j != nil || err != api.ErrLog {
			t.Errorf("%q: %v, error %d", bad, j, err)
		}
		keeps(t, d, bad)
		d = written(t, framed("s", "r")+bad+framed("lost"))
		holds(t, open(t, d, ""), "s", "r")
		keeps(t, d, framed("s", "r"))
	}
	d := written(t, "")
	ok(t, d.Append("journal.new", nil))
	if j, err := Open(d, []byte("first")); j != nil || err != api.ErrLog {
		t.Error(j, err)
	}
	keeps(t, d, "")
}

func TestP4_1EmptyFrames(t *testing.T) {
	d := written(t, framed("", "", "r"))
	j := open(t, d, "first")
	if l := j.Records(); len(j.Snapshot()) != 0 || len(l) != 2 || len(l[0]) != 0 || string(l[1]) != "r" {
		t.Error(j.Snapshot(), l)
	}
	keeps(t, d, framed("", "", "r"))
}

func TestP4_2Append(t *testing.T) {
	d := disk(t, 1000)
	j := open(t, d, "s")
	holds(t, j, "s")
	for i := range 5 {
		ok(t, j.Append([]byte("r"+strconv.Itoa(i))))
	}
	holds(t, j, "s", "r0", "r1", "r2", "r3", "r4")
	keeps(t, d, framed("s", "r0", "r1", "r2", "r3", "r4"))
	ok(t, d.Crash(nil))
	holds(t, open(t, d, "x"), "s", "r0", "r1", "r2", "r3", "r4")
}

func TestP4_2Compact(t *testing.T) {
	d := disk(t, 1000)
	j := open(t, d, "s")
	ok(t, j.Append([]byte("r")), j.Compact([]byte("t")))
	holds(t, j, "t")
	keeps(t, d, framed("t"))
	ok(t, j.Append([]byte("q")))
	holds(t, j, "t", "q")
	ok(t, d.Crash(nil))
	holds(t, open(t, d, "x"), "t", "q")
	ok(t, j.Compact(nil))
	holds(t, j, "")
	keeps(t, d, framed(""))
	ok(t, j.Compact([]byte{}), d.Crash(nil))
	holds(t, open(t, d, "x"), "")
}

func TestP4_2OrderOfErrors(t *testing.T) {
	huge := make([]byte, api.MaxRoom+1)
	var none *Journal
	for _, j := range []*Journal{none, {}} {
		for _, err := range []api.Errno{j.Append(nil), j.Append(huge), j.Append([]byte("r")), j.Compact(nil), j.Compact(huge)} {
			want(t, err, api.ErrNil)
		}
	}
	d := disk(t, api.MaxRoom)
	j := open(t, d, "s")
	arguments := func() {
		t.Helper()
		want(t, j.Append(nil), api.ErrArg)
		want(t, j.Append([]byte{}), api.ErrArg)
		want(t, j.Append(huge), api.ErrArg)
		want(t, j.Compact(huge), api.ErrArg)
	}
	arguments()
	want(t, j.Append(huge[1:]), api.ErrDisk)
	want(t, j.Compact(huge[1:]), api.ErrDisk)
	holds(t, j, "s")
	keeps(t, d, framed("s"))
	stop(t, d)
	arguments()
	if j.Stopped() {
		t.Error("an argument stopped the journal")
	}
	want(t, j.Append([]byte("r")), api.ErrDead)
	arguments()
	want(t, j.Append(huge[1:]), api.ErrDead)
	want(t, j.Compact(nil), api.ErrDead)
	holds(t, j, "s")
}

func TestP4_2FullDisk(t *testing.T) {
	d := disk(t, len(framed("snap", "one")))
	j := open(t, d, "snap")
	ok(t, j.Append([]byte("one")))
	for range 2 {
		want(t, j.Append([]byte("2")), api.ErrDisk)
		want(t, j.Compact(nil), api.ErrDisk)
		want(t, j.Compact([]byte("t")), api.ErrDisk)
		if j.Stopped() {
			t.Error("a full disk stops the journal")
		}
		holds(t, j, "snap", "one")
		keeps(t, d, framed("snap", "one"))
	}
	ok(t, d.Room(len(framed("snap", "one", "2"))))
	ok(t, j.Append([]byte("2")))
	want(t, j.Append([]byte("3")), api.ErrDisk)
	holds(t, j, "snap", "one", "2")
	keeps(t, d, framed("snap", "one", "2"))
	ok(t, d.Room(len(framed("snap", "one", "2", "t"))))
	want(t, j.Compact([]byte("tt")), api.ErrDisk)
	ok(t, j.Compact([]byte("t")))
	holds(t, j, "t")
	keeps(t, d, framed("t"))
	ok(t, d.Crash(nil))
	holds(t, open(t, d, ""), "t")
}

func TestP4_2Stops(t *testing.T) {
	for n := range 5 {
		for _, compact := range []bool{false, true} {
			d := disk(t, 100)
			j := open(t, d, "s")
			ok(t, j.Append([]byte("r")), d.Fuse(n))
			call, changes := j.Append, 2
			if compact {
				call, changes = j.Compact, 3
			}
			if err := call([]byte("new")); (err == api.OK) != (n >= changes) || err != api.OK && err != api.ErrDead {
				t.Errorf("fuse %d, compact %t: error %d", n, compact, err)
			}
			if n >= changes {
				if j.Stopped() {
					t.Error("stopped without an error")
				}
				continue
			}
			if !j.Stopped() {
				t.Error("not stopped")
			}
			holds(t, j, "s", "r")
			ok(t, d.Crash([]int{99, 99}))
			before := d.Used()
			want(t, j.Append([]byte("x")), api.ErrDead)
			want(t, j.Compact([]byte("x")), api.ErrDead)
			if !j.Stopped() || d.Used() != before {
				t.Error("a stopped journal writes")
			}
		}
	}
}

func TestP4_2OtherErrorsStop(t *testing.T) {
	d := disk(t, 100)
	j := open(t, d, "s")
	stop(t, d)
	want(t, j.Compact(nil), api.ErrDead)
	if !j.Stopped() {
		t.Error("not stopped by ErrDead of Compact")
	}
	// A disk that is stopped and full is stopped.
	d = disk(t, 9)
	j = open(t, d, "s")
	stop(t, d)
	want(t, j.Append([]byte("r")), api.ErrDead)
	ok(t, d.Crash(nil))
	want(t, j.Append([]byte("r")), api.ErrDead)
	holds(t, open(t, d, ""), "s")
}

func TestP4_3JournalOfNoCall(t *testing.T) {
	var none *Journal
	for _, j := range []*Journal{none, {}, new(Journal)} {
		if !j.Stopped() || len(j.Snapshot()) != 0 || len(j.Records()) != 0 {
			t.Error(j.Stopped(), j.Snapshot(), j.Records())
		}
	}
}

func TestP4_3Memory(t *testing.T) {
	first, record, next := []byte("first."), []byte("record."), []byte("next.")
	d := disk(t, 1000)
	j, err := Open(d, first[:5])
	ok(t, err, j.Append(record[:6]), j.Append(record[:6]))
	if string(first)+string(record) != "first.record." {
		t.Error("an argument was modified")
	}
	first[0], record[0] = 'x', 'x'
	holds(t, j, "first", "record", "record")
	s, l := j.Snapshot(), j.Records()
	s[0], l[0][0], l[1] = 'x', 'x', nil
	_, _ = append(s, 'x'), append(l[0], 'x')
	holds(t, j, "first", "record", "record")
	j = open(t, d, "")
	s, l = j.Snapshot(), j.Records()
	s[0], l[0][0] = 'x', 'x'
	_, _ = append(s, "xxxxxxxxxxxxxxxxxxxx"...), append(l[0], "xxxxxxxxxxxxxxxxxxxx"...)
	if string(l[1]) != "record" {
		t.Error("two records share memory")
	}
	holds(t, j, "first", "record", "record")
	ok(t, j.Compact(next[:4]))
	next[0] = 'x'
	holds(t, j, "next")
	keeps(t, d, framed("next"))
	if !bytes.Equal(next, []byte("xext.")) {
		t.Error("an argument was modified", string(next))
	}
}
