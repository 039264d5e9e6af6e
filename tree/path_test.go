package tree

import (
	"math"
	"math/rand"
	"regexp"
	"slices"
	"strings"
	"testing"
)

const most = "9223372036854775807"

func TestP18_1Path(t *testing.T) {
	for _, x := range []struct {
		up, item string
		n        int
		want     string
	}{
		{"p.1", "t", 2, "p.1/t.2"}, {"", "p", 1, "p.1"}, {"p.1/s.3", "t", 10, "p.1/s.3/t.10"}, {"p.1", "t", math.MaxInt, "p.1/t." + most},
		{"", "", 0, ".0"}, {"", "t", -5, "t.-5"}, {"x", "", 1, "x/.1"}, {"/", "t", 1, "//t.1"}, {"p.1/", "t", 1, "p.1//t.1"}, {".", "a.b", math.MinInt, "./a.b.-9223372036854775808"}, {"\xff", "a/b", 7, "\xff/a/b.7"}, {" ", " ", 1, " / .1"},
	} {
		if s := Path(x.up, x.item, x.n); s != x.want {
			t.Errorf("Path(%q, %q, %d) = %q, want %q", x.up, x.item, x.n, s, x.want)
		}
	}
}

func TestP18_1Up(t *testing.T) {
	for s, want := range map[string]string{
		"p.1": "", "p.1/t.2": "p.1", "p.1/s.2/t.3": "p.1/s.2",
		// Any text has what is ahead of its last slash.
		"": "", "p": "", "/": "", "//": "/", "/p.1": "", "p.1/": "p.1", "p.1//": "p.1/", "a//b": "a/", "a.b.c": "", "a#1.b#1": "", "\x00/\xff": "\x00",
	} {
		if up := Up(s); up != want {
			t.Errorf("Up(%q) = %q, want %q", s, up, want)
		}
	}
}

// what the last part of a path is.
type last struct {
	item string
	n    int
}

func lasts() map[string]last {
	long := strings.Repeat("x", 1000)
	return map[string]last{
		"p.1": {"p", 1}, "p.1/t.2": {"t", 2}, "p.1/s.3/t_9.10": {"t_9", 10}, "p." + most: {"p", math.MaxInt}, long + ".1": {long, 1}, "p.1/" + long + ".99": {long, 99},
		// Only the last part counts, there only its last dot, and the item may be any text.
		"/p.1": {"p", 1}, "x/p.1": {"p", 1}, "//p.1": {"p", 1}, "p.0/t.1": {"t", 1}, "a.b.1": {"a.b", 1}, "..1": {".", 1}, "a..1": {"a.", 1}, "a.1.2": {"a.1", 2}, "a.x.2": {"a.x", 2}, "a.0.2": {"a.0", 2}, ".5.1": {".5", 1}, "1.1": {"1", 1}, " .1": {" ", 1}, "\xff\x00.1": {"\xff\x00", 1}, "not.1": {"not", 1}, "a#1.1": {"a#1", 1}, "-1.1": {"-1", 1},
	}
}

func noLasts() []string {
	l := []string{"", "/", "p", "p.", ".", ".1", "..", "p.0", "p.-1", "p.+1", "p.01", "p.00", "p.1 ", "p. 1", "p.1x", "p.x", "p.1_0", "p.1e1", "p.0x1", "p.1.", "p.1.x", "p.1.0", "p.\u0661", "p.1\x00", "p,1", "p#1",
		"p.9223372036854775808", "p.18446744073709551617", "p.-9223372036854775808", "p." + strings.Repeat("9", 1000), "p." + strings.Repeat("0", 1000) + "1", strings.Repeat(".", 1000), strings.Repeat("9", 1000)}
	for _, s := range slices.Clone(l) {
		l = append(l, "p.1/"+s, "/"+s)
	}
	return append(l, "p.1/", "p.1/t.2/")
}

func TestP18_1Last(t *testing.T) {
	for s, want := range lasts() {
		if item, n := Last(s); item != want.item || n != want.n {
			t.Errorf("Last(%.80q) = %.80q, %d", s, item, n)
		}
		if again := Path(Up(s), want.item, want.n); s[0] != '/' && again != s {
			t.Errorf("%.80q put together again is %.80q", s, again)
		}
	}
	for _, s := range noLasts() {
		if item, n := Last(s); item != "" || n != 0 {
			t.Errorf("Last(%.80q) = %.80q, %d", s, item, n)
		}
	}
}

// ascending are paths in their order, texts that are no paths among them.
func ascending() []string {
	l := []string{
		"", "/", "//", "/p.1", "/p.1/p.1",
		// Parts without an item and a number are ahead of all others, byte by byte.
		".", ".1", ".1/a.1", ".10", ".2", "A", "a", "a.", "a.0", "a.0/a.1", "a.01", "a.9223372036854775808", "a.x", "aa", "p", "p/a.1", "p/a.2", "p/a.10", "t.00", "\xff",
		// Then the items count, byte by byte.
		" .1", ".1.1", ".1.2", "A.1", "A.2", "B.1", "_.5",
		// Then numbers, as numbers.
		"a.1", "a.1/", "a.1/x", "a.1/a.1", "a.1/a.1/a.1", "a.1/a.2", "a.1/a.10", "a.1/a.10/z.1", "a.1/aa.1", "a.1/b.1", "a.1/b.2", "a.1/b.10", "a.2", "a.2/a.1", "a.2/b.1", "a.9", "a.10", "a.10/a.1", "a.11", "a.99", "a.100",
		"a.9223372036854775806", "a." + most, "a." + most + "/a.1",
		// An item with a dot is behind the one that it begins with, whatever the numbers.
		"a..1", "a.1.1", "a.1.2", "a.1.10", "a.10.1", "a.b.1", "a0.1", "a1.1", "aA.1", "aZ.1", "a_.1", "aa.1", "aa.2", "aab.1", "ab.1", "b.1", "b.1/a.1", "ba.1", "y.1", "\xff.1",
	}
	return l
}

func TestP18_1Order(t *testing.T) {
	l := ascending()
	for i, a := range l {
		for k, b := range l {
			want := 0
			if i < k {
				want = -1
			} else if i > k {
				want = 1
			}
			if got := Order(a, b); got != want {
				t.Errorf("Order(%q, %q) = %d, want %d", a, b, got, want)
			}
			// What is ahead of the part that differs makes no difference, and neither does what is behind it.
			if got := Order("p.1/x/"+a, "p.1/x/"+b); got != want {
				t.Errorf("below a path, Order(%q, %q) = %d, want %d", a, b, got, want)
			}
			if !strings.HasPrefix(a, b) && !strings.HasPrefix(b, a) && Order(a+"/z.9", b+"/a.1") != want {
				t.Errorf("with more behind it, Order(%q, %q) is not %d", a, b, want)
			}
		}
	}
}

var partForm = regexp.MustCompile(`(?s)^(.+)\.([1-9][0-9]*)$`)

// sortKey is a text whose bytes are in the order of paths: for each part its item, its number in one length, and the part itself. The end of a text is lower than whatever a longer one goes on with.
func sortKey(path string) string {
	ended := func(s string) string { return strings.ReplaceAll(s, "\x00", "\x00\x01") + "\x00\x00" }
	var b strings.Builder
	for _, part := range strings.Split(path, "/") {
		item, digits := "", ""
		if m := partForm.FindStringSubmatch(part); m != nil && (len(m[2]) < len(most) || len(m[2]) == len(most) && m[2] <= most) {
			item, digits = m[1], m[2]
		}
		b.WriteString("\x01" + ended(item) + strings.Repeat("0", 20-len(digits)) + digits + ended(part))
	}
	return b.String()
}

func pick[T any](r *rand.Rand, l ...T) T { return l[r.Intn(len(l))] }

// scribble is a path, or a text that is nearly one.
func scribble(r *rand.Rand) string {
	s := ""
	for k := range 1 + r.Intn(3) {
		if k > 0 {
			s += "/"
		}
		s += pick(r, "a", "b", "aa", "A", "a.1", "a.b") + "." + pick(r, "1", "2", "10", "9", most)
	}
	for r.Intn(3) == 0 {
		at := r.Intn(len(s) + 1)
		s = s[:at] + pick(r, "", ".", "/", "1", "0", "a", "-", "\x00", "\x01", "9223372036854775808") + s[at+r.Intn(len(s)-at+1):]
	}
	return s
}

func TestP18_1OrderSketch(t *testing.T) {
	r := rand.New(rand.NewSource(18))
	met := map[int]int{}
	for k := range 100000 {
		a, b := scribble(r), scribble(r)
		if k%3 == 0 {
			b = a + pick(r, "", "/a.1", "/", "0", ".1")
		}
		want := strings.Compare(sortKey(a), sortKey(b))
		if Order(a, b) != want || Order(b, a) != -want {
			t.Fatalf("Order(%q, %q) = %d, back %d, want %d", a, b, Order(a, b), Order(b, a), want)
		}
		if (want == 0) != (a == b) {
			t.Fatalf("%q and %q are not told apart", a, b)
		}
		met[want]++
	}
	if met[-1] < 20000 || met[0] < 5000 || met[1] < 20000 {
		t.Error("one-sided:", met)
	}
}

func TestP18_1OrderOfLong(t *testing.T) {
	deep := strings.Repeat("a.1/", 1<<19)
	if Order(deep+"b.2", deep+"b.10") != -1 || Order(deep+"b.2", deep+"b.2") != 0 || Order(deep+"b.2", "a.1") != 1 || Order("a.1", deep) != -1 || Order(deep+"b.10", deep+"b.2/a.1") != 1 {
		t.Error("deep ones")
	}
	wide := strings.Repeat("x.", 1<<20)
	if Order(wide+"2", wide+"10") != -1 || Order(wide+"1", wide+"1/") != -1 || Order(wide, wide+"1") != -1 {
		t.Error("wide ones")
	}
}

func TestP18_2Under(t *testing.T) {
	for _, x := range []struct {
		path, up string
		want     bool
	}{
		{"p.1/t.2", "p.1", true}, {"p.1/s.1/t.2", "p.1", true}, {"p.1/s.1/t.2", "p.1/s.1", true},
		{"p.1", "p.1", false}, {"p.10", "p.1", false}, {"p.10/t.1", "p.1", false}, {"p.1", "p.1/t.2", false}, {"p.2/t.1", "p.1", false}, {"p.1/s.1/t.2", "s.1", false}, {"p.1/s.1", "t.1", false},
		// It is a matter of texts.
		{"", "", false}, {"p.1", "", false}, {"p.1/t.1", "", false}, {"/", "", true}, {"/p.1", "", true}, {"a/", "a", true}, {"a//b", "a", true}, {"a//b", "a/", true}, {"a/b", "a/", false}, {"\x00/", "\x00", true}, {"", "a", false}, {"ab/c", "a", false},
	} {
		if is := Under(x.path, x.up); is != x.want {
			t.Errorf("Under(%q, %q) = %t", x.path, x.up, is)
		}
	}
}

func TestP18_2At(t *testing.T) {
	for _, x := range []struct {
		path, item, want string
		is               bool
	}{
		{"p.1/s.2/t.3", "p", "p.1", true}, {"p.1/s.2/t.3", "s", "p.1/s.2", true}, {"p.1/s.2/t.3", "t", "p.1/s.2/t.3", true},
		{"p.1/s.2/t.3", "x", "", false}, {"p.1/s.2/t.3", "", "", false}, {"p.1/s.2/t.3", "s.2", "", false}, {"p.1/s.2/t.3", "p.1/s", "", false}, {"p.1", "P", "", false}, {"pp.1", "p", "", false},
		// Of several the shortest one counts.
		{"p.1/s.2/s.3/s.4", "s", "p.1/s.2", true}, {"p.1/p.2", "p", "p.1", true}, {"t.0/t/t.x/t.4/t.5", "t", "t.0/t/t.x/t.4", true},
		// Items with dots.
		{"a.1.2/a.3", "a", "a.1.2/a.3", true}, {"a.1.2/a.3", "a.1", "a.1.2", true},
		// Other parts have the item "".
		{"", "", "", true}, {"", "p", "", false}, {"x", "", "x", true}, {"p.1/x/y", "", "p.1/x", true}, {"/p.1", "", "", true}, {"p.1/", "", "p.1/", true}, {"p.1//", "", "p.1/", true}, {"/p.1", "p", "/p.1", true}, {"x//p.1/q.1", "p", "x//p.1", true}, {"p.0", "p", "", false}, {"p.0", "", "p.0", true}, {"p.1", "", "", false},
	} {
		if path, is := At(x.path, x.item); path != x.want || is != x.is {
			t.Errorf("At(%q, %q) = %q, %t, want %q, %t", x.path, x.item, path, is, x.want, x.is)
		}
	}
	deep := strings.Repeat("a.1/", 1<<19) + "b.2"
	if path, is := At(deep, "b"); path != deep || !is {
		t.Error("a deep one")
	}
	if path, is := At(deep, "c"); path != "" || is {
		t.Error("in a deep one")
	}
}

// At and Under against what the chapter says in other words.
func TestP18_2Sketch(t *testing.T) {
	r := rand.New(rand.NewSource(182))
	for range 30000 {
		path, item := scribble(r), pick(r, "a", "b", "aa", "A", "a.1", "a.b", "")
		want, is := "", false
		parts := strings.Split(path, "/")
		for k := len(parts); k > 0; k-- {
			whole := strings.Join(parts[:k], "/")
			if of, _ := Last(whole); of == item {
				want, is = whole, true
			}
		}
		if got, gotIs := At(path, item); got != want || gotIs != is {
			t.Fatalf("At(%q, %q) = %q, %t, want %q, %t", path, item, got, gotIs, want, is)
		}
		up := pick(r, Up(path), Up(Up(path)), path, scribble(r), path[:r.Intn(len(path)+1)])
		if got := Under(path, up); got != (len(path) > len(up) && path[:len(up)+1] == up+"/") {
			t.Fatalf("Under(%q, %q) = %t", path, up, got)
		}
	}
}
