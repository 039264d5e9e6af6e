package shape

import (
	"math"
	"strings"
	"testing"
)

// what an instance path is.
type instance struct {
	base, name string
	n          int
}

func instances() map[string]instance {
	long, most := strings.Repeat("x", 64), "9223372036854775807"
	return map[string]instance{
		"a#1":                               {"a", "a", 1},
		"_#10":                              {"_", "_", 10},
		"a#2.b#1":                           {"a.b", "b", 1},
		"a#1.a#1.a#2":                       {"a.a.a", "a", 2},
		"Ab_9#" + most:                      {"Ab_9", "Ab_9", math.MaxInt},
		"a#" + most + ".b#7":                {"a.b", "b", 7},
		long + "#1":                         {long, long, 1},
		"a#1." + long + "#20":               {"a." + long, long, 20},
		"nots#1.active#3":                   {"nots.active", "active", 3},
		strings.Repeat("a#1.", 999) + "b#5": {strings.Repeat("a.", 999) + "b", "b", 5},
	}
}

func wrongInstances() []string {
	l := []string{
		"", ".", "#", "a", "a#", "#1", "a.b", "a#0", "a#-1", "a#+1", "a#01", "a#1 ", " a#1", "a #1", "a# 1", "a#1#1", "a##1", "a#1x", "a#x", "a#1.5", "a#1,b#1", "a#1/b#1", "a#1_0", "a#\u0661", "a#1e1", "a#0x1",
		"a#9223372036854775808", "a#-9223372036854775808", "a#18446744073709551617", "a#" + strings.Repeat("9", 1000),
		"a#1.", ".a#1", "a#1..b#1", "a#1.b", "a.b#1", "a#1.b#0", "a#0.b#1", "a#1.#1", "a#1.b#1.", "a#1.b#1.c", "a#1.b#1#",
		strings.Repeat("x", 65) + "#1", "a#1." + strings.Repeat("x", 65) + "#1", "\x00", "a#1\x00", "\xff#1",
	}
	for _, name := range wrongNames() {
		l = append(l, name+"#1", "a#1."+name+"#1", name+"#1.a#1")
	}
	return l
}

func TestP12_3Base(t *testing.T) {
	for s, want := range instances() {
		if base, is := Base(s); base != want.base || !is {
			t.Errorf("Base(%.80q) = %.80q, %t", s, base, is)
		}
	}
	for _, s := range wrongInstances() {
		if base, is := Base(s); base != "" || is {
			t.Errorf("Base(%.80q) = %.80q, %t", s, base, is)
		}
	}
}

func TestP12_3Last(t *testing.T) {
	for s, want := range instances() {
		if name, n := Last(s); name != want.name || n != want.n {
			t.Errorf("Last(%.80q) = %.80q, %d", s, name, n)
		}
	}
	for _, s := range wrongInstances() {
		if name, n := Last(s); name != "" || n != 0 {
			t.Errorf("Last(%.80q) = %.80q, %d", s, name, n)
		}
	}
}

func TestP12_3Up(t *testing.T) {
	for s, want := range map[string]string{
		"": "", "a#1": "", "a#1.b#1": "a#1", "a#1.b#2.c#3": "a#1.b#2",
		// Any text has what is ahead of its last dot.
		"a": "", "a.b": "a", "a.b.": "a.b", ".": "", "..": ".", ".a": "", "a..b": "a.", "#.#1": "#", "not.\xff\x00": "not", "a/b": "", "a b.c d": "a b",
	} {
		if up := Up(s); up != want {
			t.Errorf("Up(%q) = %q, want %q", s, up, want)
		}
	}
}

func TestP12_3Join(t *testing.T) {
	for _, x := range []struct {
		up, name string
		n        int
		want     string
	}{
		{"", "a", 1, "a#1"}, {"a#1", "b", 2, "a#1.b#2"}, {"a#1.b#2", "c", math.MaxInt, "a#1.b#2.c#9223372036854775807"},
		{"", "", 0, "#0"}, {"", "a", -5, "a#-5"}, {"x", "", 1, "x.#1"}, {".", "a", 1, "..a#1"}, {"a", "not b", math.MinInt, "a.not b#-9223372036854775808"}, {"\xff", "a.b", 10, "\xff.a.b#10"}, {" ", "a#1", 1, " .a#1#1"},
	} {
		if s := Join(x.up, x.name, x.n); s != x.want {
			t.Errorf("Join(%q, %q, %d) = %q, want %q", x.up, x.name, x.n, s, x.want)
		}
	}
	for s := range instances() {
		name, n := Last(s)
		if again := Join(Up(s), name, n); again != s {
			t.Errorf("%.80q joined again is %.80q", s, again)
		}
	}
}

// ascending are instance paths in their order.
func ascending() []string {
	long := strings.Repeat("x", 64)
	return []string{
		"A#1", "B#1", "_#5", "a#1", "a#1.a#1", "a#1.a#1.a#1", "a#1.a#2", "a#1.a#10", "a#1.a#10.z#1", "a#1.aa#1", "a#1.b#1", "a#1.b#2", "a#1.b#10",
		"a#2", "a#2.a#1", "a#2.b#1", "a#9", "a#10", "a#10.a#1", "a#11", "a#99", "a#100", "a#9223372036854775806", "a#9223372036854775807", "a#9223372036854775807.a#1",
		"a0#1", "a1#1", "aA#1", "aZ#1", "a_#1", "aa#1", "aa#2", "aab#1", "ab#1", "b#1", "b#1.a#1", "ba#1", long + "#1", "y#1",
	}
}

func TestP12_3OrderOfInstances(t *testing.T) {
	l := ascending()
	for i, a := range l {
		for k, b := range l {
			want := 0
			if i < k {
				want = -1
			} else if i > k {
				want = 1
			}
			if got := Order(a, b); got != want {
				t.Errorf("Order(%q, %q) = %d, want %d", a, b, got, want)
			}
		}
	}
	if Order("a#2", "a#10") != -1 || Order("a#10", "a#2") != 1 {
		t.Error("example 1")
	}
	deep := strings.Repeat("a#1.", 20000)
	if Order(deep+"b#2", deep+"b#10") != -1 || Order(deep+"b#2", deep+"b#2") != 0 || Order(deep+"b#2", "a#1") != 1 {
		t.Error("long ones")
	}
}

// If one of two texts is no instance path, bytes count.
func TestP12_3OrderOfOthers(t *testing.T) {
	wrong := append(wrongInstances(), "a#2.b", "a#10.b", "a#10.", "a#2.", "a#02", "a#2 ", "a#10 ")
	for _, a := range wrong {
		for _, b := range append(ascending(), wrong...) {
			if want := strings.Compare(a, b); Order(a, b) != want || Order(b, a) != -want {
				t.Fatalf("Order(%.80q, %.80q) = %d, back %d, want %d", a, b, Order(a, b), Order(b, a), want)
			}
		}
	}
	for _, x := range [][2]string{{"a#10", "a#2 "}, {"a#10.b", "a#2.b"}, {"a#10.b", "a#2"}, {"a#10", "a#2.b"}, {"a#10", "a#9223372036854775808"}, {"A", "a#1"}, {"", "a#1"}} {
		if Order(x[0], x[1]) != -1 || Order(x[1], x[0]) != 1 {
			t.Errorf("Order(%q, %q) = %d", x[0], x[1], Order(x[0], x[1]))
		}
	}
	if Order("", "") != 0 || Order("x", "x") != 0 || Order("a#0", "a#0") != 0 {
		t.Error("equal ones")
	}
}

func TestP12_3Example(t *testing.T) {
	if base, is := Base("a#2.b#1"); base != "a.b" || !is {
		t.Error(base, is)
	}
}
