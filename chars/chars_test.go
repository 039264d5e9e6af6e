package chars

import (
	"bytes"
	"math"
	"strconv"
	"strings"
	"testing"

	"dossier/api"
)

type span struct{ low, high int }

func within(r int, l []span) bool {
	for _, x := range l {
		if x.low <= r && r <= x.high {
			return true
		}
	}
	return false
}

var (
	characters = []span{{0, 0xd7ff}, {0xe000, 0x10ffff}}
	inDocument = []span{{9, 9}, {0xa, 0xa}, {0xd, 0xd}, {0x20, 0xd7ff}, {0xe000, 0xfffd}, {0x10000, 0x10ffff}}
	blanks     = []span{{9, 9}, {0xa, 0xa}, {0xd, 0xd}, {0x20, 0x20}}
	starts     = []span{{'A', 'Z'}, {'_', '_'}, {'a', 'z'}, {0xc0, 0xd6}, {0xd8, 0xf6}, {0xf8, 0x2ff}, {0x370, 0x37d}, {0x37f, 0x1fff}, {0x200c, 0x200d}, {0x2070, 0x218f}, {0x2c00, 0x2fef}, {0x3001, 0xd7ff}, {0xf900, 0xfdcf}, {0xfdf0, 0xfffd}, {0x10000, 0xeffff}}
	onlyLater  = []span{{'-', '-'}, {'.', '.'}, {'0', '9'}, {0xb7, 0xb7}, {0x300, 0x36f}, {0x203f, 0x2040}}
	// strange are no characters; cut to 32 bits, the last two would be letters.
	strange = []int{-1, 0xd800, 0xdbff, 0xdc00, 0xdfff, 0x110000, -1 << 31, math.MinInt, math.MaxInt, 'a' + 1<<32, 'a' - 1<<32}
)

// spelled is the UTF-8 form of a character in size bytes, whether or not it is the shortest one.
func spelled(r, size int) []byte {
	switch size {
	case 1:
		return []byte{byte(r)}
	case 2:
		return []byte{byte(0xc0 | r>>6), byte(0x80 | r&0x3f)}
	case 3:
		return []byte{byte(0xe0 | r>>12), byte(0x80 | r>>6&0x3f), byte(0x80 | r&0x3f)}
	}
	return []byte{byte(0xf0 | r>>18), byte(0x80 | r>>12&0x3f), byte(0x80 | r>>6&0x3f), byte(0x80 | r&0x3f)}
}

func shortest(r int) []byte {
	for size, most := range []int{0x7f, 0x7ff, 0xffff} {
		if r <= most {
			return spelled(r, size+1)
		}
	}
	return spelled(r, 4)
}

func TestP1_1EveryCharacter(t *testing.T) {
	for r := 0; r <= 0x10ffff; r++ {
		if !within(r, characters) {
			continue
		}
		want := shortest(r)
		if got := Encode(r); !bytes.Equal(got, want) {
			t.Fatalf("Encode(%x) = % x, want % x", r, got, want)
		}
		for _, tail := range []string{"", "\x80", "a", "\xff"} {
			if got, size := Decode(append(shortest(r), tail...)); got != r || size != len(want) {
				t.Fatalf("Decode(% x + %q) = %x, %d", want, tail, got, size)
			}
		}
		for cut := range len(want) {
			if got, size := Decode(want[:cut]); got != 0 || size != 0 {
				t.Fatalf("Decode(% x) = %x, %d", want[:cut], got, size)
			}
		}
	}
}

func TestP1_1Example(t *testing.T) {
	if r, size := Decode([]byte{0xc3, 0xa9}); r != 0xe9 || size != 2 {
		t.Fatal(r, size)
	}
}

func TestP1_1EncodeOfNoCharacter(t *testing.T) {
	for _, r := range strange {
		if got := Encode(r); len(got) != 0 {
			t.Errorf("Encode(%x) = % x", r, got)
		}
	}
	for r := 0xd800; r <= 0xdfff; r++ {
		if got := Encode(r); len(got) != 0 {
			t.Errorf("Encode(%x) = % x", r, got)
		}
	}
}

// head is the character with which b begins, worked out from the bits alone.
func head(b []byte) (int, int) {
	for size := 1; size <= 4 && size <= len(b); size++ {
		mask := []byte{0, 0x7f, 0x1f, 0x0f, 0x07}[size]
		r := int(b[0] & mask)
		for _, x := range b[1:size] {
			r = r<<6 | int(x&0x3f)
		}
		if within(r, characters) && bytes.Equal(b[:size], shortest(r)) {
			return r, size
		}
	}
	return 0, 0
}

func TestP1_1AnyBytes(t *testing.T) {
	edges := []byte{0, 'A', 0x7f, 0x80, 0x81, 0x8f, 0x90, 0x9f, 0xa0, 0xbe, 0xbf, 0xc0, 0xc1, 0xc2, 0xdf, 0xe0, 0xe1, 0xec, 0xed, 0xee, 0xef, 0xf0, 0xf1, 0xf3, 0xf4, 0xf5, 0xf7, 0xf8, 0xfb, 0xfc, 0xfd, 0xfe, 0xff}
	try := func(b []byte) {
		want, wantSize := head(b)
		if r, size := Decode(b); r != want || size != wantSize {
			t.Fatalf("Decode(% x) = %x, %d, want %x, %d", b, r, size, want, wantSize)
		}
	}
	try(nil)
	try([]byte{})
	for a := range 256 {
		try([]byte{byte(a)})
		for b := range 256 {
			try([]byte{byte(a), byte(b)})
			for _, c := range edges {
				try([]byte{byte(a), byte(b), c})
			}
		}
	}
	for _, a := range []byte{0xef, 0xf0, 0xf1, 0xf3, 0xf4, 0xf5, 0xff} {
		for b := range 256 {
			for _, c := range edges {
				for _, d := range edges {
					try([]byte{a, byte(b), c, d})
				}
			}
		}
	}
}

func TestP1_1LongForms(t *testing.T) {
	for _, r := range []int{0, '/', 0x7f, 0x80, 0x7ff, 0x800, 0xffff} {
		for size := len(shortest(r)) + 1; size <= 4; size++ {
			if got, n := Decode(spelled(r, size)); got != 0 || n != 0 {
				t.Errorf("Decode(% x) = %x, %d", spelled(r, size), got, n)
			}
		}
	}
}

func TestP1_1Memory(t *testing.T) {
	a, b := Encode(0x20ac), Encode(0x20ac)
	a[0] = 0
	_ = append(a, 1)
	if !bytes.Equal(b, shortest(0x20ac)) || !bytes.Equal(Encode(0x20ac), shortest(0x20ac)) {
		t.Fatal("two results share memory")
	}
	whole := []byte("\u20acabc")
	Decode(whole[:3])
	Wrong(whole[:3])
	if string(whole) != "\u20acabc" {
		t.Fatal("the argument was modified")
	}
}

func TestP1_2EveryCharacter(t *testing.T) {
	for r := 0; r <= 0x10ffff; r++ {
		if !within(r, characters) {
			continue
		}
		want := -1
		if !within(r, inDocument) {
			want = 2
		}
		if got := Wrong(append([]byte("\u00e9"), shortest(r)...)); got != want {
			t.Fatalf("Wrong of e9, %x = %d, want %d", r, got, want)
		}
	}
}

func TestP1_2Offsets(t *testing.T) {
	for _, x := range []struct {
		s    string
		want int
	}{
		{"", -1},
		{"ab\x01", 2},
		{"ab\x00c\x00", 2},
		{"\ufffe", 0},
		{"a\u20ac\uffff", 4},
		{"\U0001f600\xff\xff", 4},
		{"a\u00e9\n\r\t z", -1},
		{"\ufffd", -1},
		{"\U0010ffff", -1},
		{"\x80", 0},
		{"ab\xe2\x82", 2},
		{"ab\xe2\x82c", 2},
		{"\u00e9\xed\xa0\x80", 2},
		{"a\xc0\x80", 1},
		{"\u20ac\x82", 3},
		{"\xf4\x90\x80\x80", 0},
	} {
		if got := Wrong([]byte(x.s)); got != x.want {
			t.Errorf("Wrong(%q) = %d, want %d", x.s, got, x.want)
		}
	}
	if Wrong(nil) != -1 {
		t.Error("Wrong(nil)")
	}
	long := []byte(strings.Repeat("\u20ac", 10000) + "\x7f\x1f")
	if got := Wrong(long); got != 30001 {
		t.Error("long", got)
	}
}

func TestP1_3Classes(t *testing.T) {
	classes := []struct {
		name string
		is   func(int) bool
		want []span
	}{
		{"Space", Space, blanks},
		{"First", First, starts},
		{"Later", Later, append(append([]span{}, starts...), onlyLater...)},
	}
	for _, c := range classes {
		for r := -300; r <= 0x110100; r++ {
			if c.is(r) != within(r, c.want) {
				t.Fatalf("%s(%x) = %t", c.name, r, c.is(r))
			}
		}
		for _, r := range []int{math.MinInt, math.MaxInt, 'a' + 1<<32, ' ' + 1<<32, 'a' - 1<<32, -'a'} {
			if c.is(r) {
				t.Errorf("%s(%x)", c.name, r)
			}
		}
	}
}

func TestP1_3EveryNameOfOneOrTwo(t *testing.T) {
	for r := 0; r <= 0x10ffff; r++ {
		if !within(r, characters) {
			continue
		}
		s := string(shortest(r))
		start := within(r, starts)
		if Name(s) != start || Name(s+"a") != start {
			t.Fatalf("Name(%q) = %t, %t", s, Name(s), Name(s+"a"))
		}
		if later := start || within(r, onlyLater); Name("a"+s) != later {
			t.Fatalf("Name(%q) = %t", "a"+s, Name("a"+s))
		}
	}
}

func TestP1_3Names(t *testing.T) {
	for _, s := range []string{"a", "_", "a-1.b", "Z9", "\u00e9\u00b7", "\ufffd", "a\ufffd", "\U00010000", strings.Repeat("n", 70000)} {
		if !Name(s) {
			t.Errorf("%.20q is a name", s)
		}
	}
	for _, s := range []string{"", "1a", "-", ".a", "a b", " a", "a ", "a:b", ":", "\u00b7", "\u0301", "a\x00", "\xff", "a\xff", "a\xed\xa0\x80", "\xc3", "a\xe2\x82", "a\xc0\xad", "ab\x80c", "\U000f0000", strings.Repeat("n", 70000) + "!"} {
		if Name(s) {
			t.Errorf("%.20q is no name", s)
		}
	}
}

func TestP1_4Number(t *testing.T) {
	for s, want := range map[string]int{
		"0": 0, "1": 1, "9": 9, "10": 10, "-1": -1, "-10": -10, "100200300": 100200300,
		"9223372036854775807":  math.MaxInt,
		"9223372036854775806":  math.MaxInt - 1,
		"-9223372036854775807": math.MinInt + 1,
		"-9223372036854775808": math.MinInt,
		"1000000000000000000":  1000000000000000000,
		"-9000000000000000009": -9000000000000000009,
	} {
		if n, err := Number(s); n != want || err != api.OK {
			t.Errorf("Number(%q) = %d, %d", s, n, err)
		}
	}
	bad := map[api.Errno][]string{
		api.ErrForm: {"", "-", "--1", "+1", "007", "00", "-0", "-00", "-01", "0-", "1-", "1a", "a", "0x1", "1_000", " 1", "1 ", "1.0", "1e3", "\u0661", "\xff", "/", ":", "1/", "1:", "1\x00",
			"09223372036854775808", "-09223372036854775809", "99999999999999999999x", "-99999999999999999999-"},
		api.ErrFull: {"9223372036854775808", "9223372036854775809", "9223372036854775810", "-9223372036854775809", "-9223372036854775810", "9999999999999999999", "10000000000000000000", "18446744073709551615", "18446744073709551616", "18446744073709551617", "-18446744073709551616", "-18446744073709551617", "36893488147419103232", strings.Repeat("9", 5000), "-1" + strings.Repeat("0", 5000)},
	}
	for want, l := range bad {
		for _, s := range l {
			if n, err := Number(s); n != 0 || err != want {
				t.Errorf("Number(%.30q) = %d, %d, want error %d", s, n, err, want)
			}
		}
	}
}

// numbers are those around each power of two and of ten.
func numbers() []int {
	l := []int{math.MinInt, math.MinInt + 1, math.MaxInt}
	for d := -2; d <= 2; d++ {
		for i := range 63 {
			l = append(l, 1<<i+d, -(1<<i)+d)
		}
		for p := 1; p <= 1e18; p *= 10 {
			l = append(l, p+d, -p+d, 9*(p/10)+d)
			if p == 1e18 {
				break
			}
		}
	}
	return l
}

func TestP1_4Text(t *testing.T) {
	for n, want := range map[int]string{0: "0", 7: "7", -7: "-7", 10: "10", 1200: "1200", -305: "-305", math.MaxInt: "9223372036854775807", math.MinInt: "-9223372036854775808"} {
		if got := Text(n); got != want {
			t.Errorf("Text(%d) = %q", n, got)
		}
	}
	for _, n := range numbers() {
		if got := Text(n); got != strconv.Itoa(n) {
			t.Errorf("Text(%d) = %q", n, got)
		}
	}
}

func TestP1_5NumbersAndTexts(t *testing.T) {
	for _, n := range numbers() {
		if got, err := Number(Text(n)); got != n || err != api.OK {
			t.Errorf("Number(Text(%d)) = %d, %d", n, got, err)
		}
	}
	marks := []string{"", "-", "0", "1", "5", "9", "a", "+", " "}
	for _, a := range marks {
		for _, b := range marks {
			for _, c := range marks {
				for _, d := range marks {
					s := a + b + c + d
					if n, err := Number(s); err == api.OK && Text(n) != s {
						t.Errorf("Text(Number(%q)) = %q", s, Text(n))
					}
				}
			}
		}
	}
}

func TestP1_6DecodeOfEncode(t *testing.T) {
	for r := -1; r <= 0x110000; r++ {
		b := Encode(r)
		got, size := Decode(b)
		if within(r, characters) && (got != r || size != len(b)) || !within(r, characters) && size != 0 {
			t.Fatalf("Decode(Encode(%x)) = %x, %d", r, got, size)
		}
	}
}
