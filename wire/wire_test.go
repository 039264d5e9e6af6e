package wire

import (
	"bytes"
	"encoding/binary"
	"hash/crc32"
	"math"
	"strings"
	"testing"

	"dossier/api"
)

// numbers are those around each power of two.
func numbers() []int {
	l := []int{math.MinInt, math.MinInt + 1, math.MaxInt - 1, math.MaxInt}
	for i := range 63 {
		for d := -2; d <= 2; d++ {
			l = append(l, 1<<i+d, -(1<<i)+d)
		}
	}
	return l
}

func TestP2_1Int(t *testing.T) {
	for n, want := range map[int][]byte{
		0: {0}, -1: {1}, 1: {2}, -2: {3}, 63: {0x7e}, -64: {0x7f}, 64: {0x80, 1}, -65: {0x81, 1}, 8191: {0xfe, 0x7f}, 8192: {0x80, 0x80, 1},
		math.MaxInt: {0xfe, 0xff, 0xff, 0xff, 0xff, 0xff, 0xff, 0xff, 0xff, 1},
		math.MinInt: {0xff, 0xff, 0xff, 0xff, 0xff, 0xff, 0xff, 0xff, 0xff, 1},
	} {
		if got := Int(nil, n); !bytes.Equal(got, want) {
			t.Errorf("Int(%d) = % x, want % x", n, got, want)
		}
	}
	for _, n := range numbers() {
		if got, want := Int([]byte("ab"), n), binary.AppendVarint([]byte("ab"), int64(n)); !bytes.Equal(got, want) {
			t.Errorf("Int(%d) = % x, want % x", n, got, want)
		}
	}
}

func TestP2_1Text(t *testing.T) {
	for s, want := range map[string]string{"": "\x00", "ab": "\x04ab", "\xff\x00": "\x04\xff\x00", "\u00e9": "\x04\u00e9"} {
		if got := string(Text([]byte("x"), s)); got != "x"+want {
			t.Errorf("Text(%q) = %q", s, got)
		}
	}
	long := strings.Repeat("z", 100)
	if got := string(Text(nil, long)); got != "\xc8\x01"+long {
		t.Errorf("Text of 100 bytes = %q", got)
	}
}

func TestP2_1Flag(t *testing.T) {
	if got := Flag(Flag(nil, true), false); !bytes.Equal(got, []byte{1, 0}) {
		t.Errorf("Flag = % x", got)
	}
}

func TestP2_1Memory(t *testing.T) {
	puts := map[string]func([]byte) []byte{
		"Int":  func(b []byte) []byte { return Int(b, 64) },
		"Text": func(b []byte) []byte { return Text(b, "st") },
		"Flag": func(b []byte) []byte { return Flag(b, true) },
	}
	for name, put := range puts {
		whole := []byte("abcdefghijklmnopqrstuvwxyz")
		got := put(whole[:2])
		if string(whole) != "abcdefghijklmnopqrstuvwxyz" {
			t.Errorf("%s wrote into the spare capacity: %q", name, whole)
		}
		before := string(got)
		whole[0], whole[1] = 0, 0
		if string(got) != before || string(got[:2]) != "ab" {
			t.Errorf("%s shares memory with its argument", name)
		}
		empty := make([]byte, 0, 50)
		put(empty)
		if !bytes.Equal(empty[:50], make([]byte, 50)) {
			t.Errorf("%s wrote into the spare capacity of no bytes", name)
		}
	}
}

func TestP2_1Crc(t *testing.T) {
	if got := Crc([]byte("123456789")); got != 0xcbf43926 {
		t.Errorf("Crc = %x", got)
	}
	if Crc(nil) != 0 || Crc([]byte{}) != 0 {
		t.Error("Crc of no bytes")
	}
	var b []byte
	for i := range 600 {
		b = append(b, byte(i*i+i>>3))
		if got, want := Crc(b), int(crc32.ChecksumIEEE(b)); got != want {
			t.Fatalf("Crc of %d bytes = %x, want %x", len(b), got, want)
		}
	}
	for i := range 256 {
		if got, want := Crc([]byte{byte(i)}), int(crc32.ChecksumIEEE([]byte{byte(i)})); got != want || got < 0 {
			t.Errorf("Crc of byte %x = %x, want %x", i, got, want)
		}
	}
}

func TestP2_2IntErrors(t *testing.T) {
	all := func(n int, last ...byte) []byte { return append(bytes.Repeat([]byte{0xff}, n), last...) }
	for _, x := range []struct {
		b         []byte
		low, high int
		want      api.Errno
	}{
		{nil, 0, 9, api.ErrShort},
		{[]byte{0x80}, 0, 9, api.ErrShort},
		{all(9), 0, 9, api.ErrShort},
		{[]byte{0x80, 0}, 0, 9, api.ErrForm},
		{[]byte{0xff, 0x80, 0}, 0, 9, api.ErrForm},
		{[]byte{0x82, 0, 0}, 0, 9, api.ErrForm},
		{all(9, 0), math.MinInt, math.MaxInt, api.ErrForm},
		{all(9, 2), math.MinInt, math.MaxInt, api.ErrForm},
		{all(9, 0x7f), math.MinInt, math.MaxInt, api.ErrForm},
		{all(9, 0x80), math.MinInt, math.MaxInt, api.ErrForm},
		{all(9, 0x81), math.MinInt, math.MaxInt, api.ErrForm},
		{all(9, 0x81, 0), math.MinInt, math.MaxInt, api.ErrForm},
		{all(20, 1), math.MinInt, math.MaxInt, api.ErrForm},
		{[]byte{20}, 0, 9, api.ErrFull},
		{[]byte{1}, 0, 9, api.ErrFull},
		{[]byte{20}, 11, 12, api.ErrFull},
		{[]byte{0}, 5, -5, api.ErrFull},
		{[]byte{10}, math.MaxInt, math.MinInt, api.ErrFull},
		{all(9, 1), math.MinInt + 1, math.MaxInt, api.ErrFull},
		{append([]byte{0xfe}, all(8, 1)...), math.MinInt, math.MaxInt - 1, api.ErrFull},
	} {
		r := Open(x.b)
		if n := r.Int(x.low, x.high); n != 0 || r.Err() != x.want || r.End() != x.want || r.Left() != 0 {
			t.Errorf("Int(%d, %d) of % x = %d, error %d, end %d, left %d, want error %d", x.low, x.high, x.b, n, r.Err(), r.End(), r.Left(), x.want)
		}
	}
}

func TestP2_2IntLimits(t *testing.T) {
	for _, n := range numbers() {
		if r := Open(Int(nil, n)); r.Int(n, n) != n || r.End() != api.OK {
			t.Errorf("Int(%d, %d): error %d", n, n, r.End())
		}
		if n > math.MinInt {
			if r := Open(Int(nil, n)); r.Int(math.MinInt, n-1) != 0 || r.Err() != api.ErrFull {
				t.Errorf("%d is above %d: error %d", n, n-1, r.Err())
			}
		}
		if n < math.MaxInt {
			if r := Open(Int(nil, n)); r.Int(n+1, math.MaxInt) != 0 || r.Err() != api.ErrFull {
				t.Errorf("%d is below %d: error %d", n, n+1, r.Err())
			}
		}
	}
}

func TestP2_2TextErrors(t *testing.T) {
	for _, x := range []struct {
		b    string
		most int
		want api.Errno
	}{
		{"", 9, api.ErrShort},
		{"\x84", 9, api.ErrShort},
		{"\x02", 9, api.ErrShort},
		{"\x06ab", 9, api.ErrShort},
		{"\x06ab", 3, api.ErrShort},
		{"\x84\x00ab", 9, api.ErrForm},
		{"\x01", 9, api.ErrFull},
		{"\x01a", math.MaxInt, api.ErrFull},
		{"\x06abc", 2, api.ErrFull},
		{"\x00", -1, api.ErrFull},
		{"\x00", math.MinInt, api.ErrFull},
		{"\x02a", 0, api.ErrFull},
		// The length comes ahead of the bytes, and so do its errors.
		{"\x06ab", 2, api.ErrFull},
		{"\xfe\xff\xff\xff\xff\xff\xff\xff\xff\x01ab", 2, api.ErrFull},
		{"\xfe\xff\xff\xff\xff\xff\xff\xff\xff\x01ab", math.MaxInt, api.ErrShort},
	} {
		r := Open([]byte(x.b))
		if s := r.Text(x.most); s != "" || r.Err() != x.want || r.End() != x.want || r.Left() != 0 {
			t.Errorf("Text(%d) of %q = %q, error %d, end %d, left %d, want error %d", x.most, x.b, s, r.Err(), r.End(), r.Left(), x.want)
		}
	}
}

func TestP2_2TextLimits(t *testing.T) {
	for _, s := range []string{"", "a", "ab\xff\x00", strings.Repeat("y", 64), strings.Repeat("y", 70000)} {
		if r := Open(Text(nil, s)); r.Text(len(s)) != s || r.End() != api.OK {
			t.Errorf("a text of %d bytes: error %d", len(s), r.End())
		}
		if r := Open(Text(nil, s)); r.Text(math.MaxInt) != s || r.End() != api.OK {
			t.Errorf("a text of %d bytes: error %d", len(s), r.End())
		}
		if r := Open(Text(nil, s)); r.Text(len(s)-1) != "" || r.Err() != api.ErrFull {
			t.Errorf("a text of %d bytes where fewer may be: error %d", len(s), r.Err())
		}
	}
}

func TestP2_2Flag(t *testing.T) {
	if r := Open([]byte{1, 0}); !r.Flag() || r.Flag() || r.End() != api.OK {
		t.Error(r.End())
	}
	if r := Open(nil); r.Flag() || r.Err() != api.ErrShort {
		t.Error(r.Err())
	}
	for i := 2; i < 256; i++ {
		if r := Open([]byte{byte(i), 1}); r.Flag() || r.Err() != api.ErrForm || r.Left() != 0 {
			t.Error(i, r.Err())
		}
	}
}

func TestP2_2Positions(t *testing.T) {
	r := Open([]byte{0x80, 1, 4, 'a', 'b', 1, 7})
	left := func(want int) {
		t.Helper()
		if r.Left() != want || r.Err() != api.OK || r.End() != api.ErrForm {
			t.Fatal(r.Left(), r.Err(), r.End())
		}
	}
	left(7)
	if r.Int(0, 64) != 64 {
		t.Fatal("Int")
	}
	left(5)
	if r.Text(2) != "ab" {
		t.Fatal("Text")
	}
	left(2)
	if !r.Flag() {
		t.Fatal("Flag")
	}
	left(1)
	if r.Int(-4, -4) != -4 || r.Left() != 0 || r.End() != api.OK || r.Err() != api.OK {
		t.Fatal("the end")
	}
	if r.Flag() || r.End() != api.ErrShort {
		t.Fatal("behind the end")
	}
	if r := Open(nil); r.Left() != 0 || r.Err() != api.OK || r.End() != api.OK {
		t.Fatal("no bytes")
	}
}

func TestP2_2FirstErrorStays(t *testing.T) {
	fails := map[string]func() *Reader{
		"ErrForm": func() *Reader { r := Open([]byte{2, 1, 4, 'a', 'b'}); r.Flag(); return r },
		"ErrFull": func() *Reader { r := Open([]byte{2, 1, 4, 'a', 'b'}); r.Int(5, 6); return r },
		"Text":    func() *Reader { r := Open([]byte{4, 'a', 'b', 1}); r.Text(1); return r },
		"ErrShort": func() *Reader {
			r := Open([]byte{8, 1, 1, 1})
			r.Text(9)
			return r
		},
	}
	want := map[string]api.Errno{"ErrForm": api.ErrForm, "ErrFull": api.ErrFull, "Text": api.ErrFull, "ErrShort": api.ErrShort}
	for name, fail := range fails {
		r := fail()
		for range 3 {
			if r.Int(math.MinInt, math.MaxInt) != 0 || r.Text(math.MaxInt) != "" || r.Flag() || r.Left() != 0 || r.Err() != want[name] || r.End() != want[name] {
				t.Errorf("%s: error %d, end %d, left %d", name, r.Err(), r.End(), r.Left())
			}
		}
	}
}

func TestP2_2ReaderOfNoCall(t *testing.T) {
	var none *Reader
	for _, r := range []*Reader{none, {}, new(Reader)} {
		for range 2 {
			if r.Int(math.MinInt, math.MaxInt) != 0 || r.Text(9) != "" || r.Flag() || r.Left() != 0 || r.Err() != api.ErrNil || r.End() != api.ErrNil {
				t.Errorf("error %d, end %d, left %d", r.Err(), r.End(), r.Left())
			}
		}
	}
}

func TestP2_2Memory(t *testing.T) {
	b := []byte{4, 'a', 'b', 4, 'c', 'd'}
	r := Open(b)
	first := r.Text(2)
	b[1], b[4], b[5] = 'x', 'x', 'x'
	if second := r.Text(2); first != "ab" || second != "cd" || r.End() != api.OK {
		t.Error("the reader keeps its argument", first, second)
	}
	if string(b) != "\x04xb\x04xx" {
		t.Error("the argument was modified")
	}
}

func TestP2_3ValuesRoundTrip(t *testing.T) {
	var b []byte
	l := numbers()
	for i, n := range l {
		b = Flag(Text(Int(b, n), strings.Repeat("\xfe", i)), i%3 == 0)
	}
	r := Open(b)
	for i, n := range l {
		if got := r.Int(math.MinInt, math.MaxInt); got != n {
			t.Fatal(i, got, n)
		}
		if r.Text(len(l)) != strings.Repeat("\xfe", i) || r.Flag() != (i%3 == 0) {
			t.Fatal(i, r.Err())
		}
	}
	if r.End() != api.OK {
		t.Fatal(r.End())
	}
}

// rewritten reads b as a value of each kind and returns the bytes that were read, and the value's encoding.
func rewritten(b []byte) (read, again [][]byte) {
	keep := func(r *Reader, out []byte) {
		if r.Err() == api.OK {
			read = append(read, b[:len(b)-r.Left()])
			again = append(again, out)
		}
	}
	r := Open(b)
	keep(r, Int(nil, r.Int(math.MinInt, math.MaxInt)))
	r = Open(b)
	keep(r, Text(nil, r.Text(math.MaxInt)))
	r = Open(b)
	keep(r, Flag(nil, r.Flag()))
	return read, again
}

func TestP2_3BytesRoundTrip(t *testing.T) {
	try := func(b []byte) {
		read, again := rewritten(b)
		for i := range read {
			if !bytes.Equal(read[i], again[i]) {
				t.Fatalf("% x is read of % x, % x is written", read[i], b, again[i])
			}
		}
	}
	edges := []byte{0, 1, 2, 0x7e, 0x7f, 0x80, 0x81, 0xfe, 0xff}
	for _, z := range edges {
		for length := range 11 {
			for _, fill := range []byte{0x80, 0x81, 0xff} {
				for _, a := range edges {
					try(append(bytes.Repeat([]byte{fill}, length), a, z))
				}
			}
		}
	}
	for a := range 256 {
		try([]byte{byte(a)})
		for c := range 256 {
			try([]byte{byte(a), byte(c)})
			for _, d := range edges {
				try([]byte{byte(a), byte(c), d, 5})
			}
		}
	}
}
