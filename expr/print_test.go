package expr

import (
	"math"
	"strings"
	"testing"

	"dossier/api"
)

func TestP9_2Print(t *testing.T) {
	a, b, c := path("a"), path("b"), path("c")
	for want, n := range map[string]api.Node{
		"0":                        whole(0),
		"9223372036854775807":      whole(math.MaxInt),
		"true":                     truth(true),
		"false":                    truth(false),
		`""`:                       text(""),
		`"a\"b\\c"`:                text(`a"b\c`),
		"\"\n\u20ac\"":             text("\n\u20ac"),
		"a":                        a,
		"a.b.c":                    path("a.b.c"),
		"count(a)":                 count("a"),
		"count(a.b)":               count("a.b"),
		"number(a, available)":     number("a", 1),
		"number(a, enabled)":       number("a", 2),
		"number(a, disabled)":      number("a", 3),
		"number(a, active)":        number("a", 4),
		"number(a, failed)":        number("a", 5),
		"number(a, suspended)":     number("a", 6),
		"number(a, completed)":     number("a", 7),
		"number(a, terminated)":    number("a", 8),
		"not a":                    tree(5, a),
		"-a":                       tree(6, a),
		"-1":                       tree(6, whole(1)),
		"--1":                      tree(6, tree(6, whole(1))),
		"not not -a":               tree(5, tree(5, tree(6, a))),
		"a * b":                    tree(7, a, b),
		"a / b":                    tree(8, a, b),
		"a % b":                    tree(9, a, b),
		"a + b":                    tree(10, a, b),
		"a - b":                    tree(11, a, b),
		"a < b":                    tree(12, a, b),
		"a <= b":                   tree(13, a, b),
		"a > b":                    tree(14, a, b),
		"a >= b":                   tree(15, a, b),
		"a = b":                    tree(16, a, b),
		"a != b":                   tree(17, a, b),
		"a and b":                  tree(18, a, b),
		"a or b":                   tree(19, a, b),
		"a - b - c":                tree(11, tree(11, a, b), c),
		"a - (b - c)":              tree(11, a, tree(11, b, c)),
		"a - (b + c)":              tree(11, a, tree(10, b, c)),
		"a * (b / c)":              tree(7, a, tree(8, b, c)),
		"a or b or c":              tree(19, tree(19, a, b), c),
		"a or (b or c)":            tree(19, a, tree(19, b, c)),
		"a and (b and c)":          tree(18, a, tree(18, b, c)),
		"a and b or c":             tree(19, tree(18, a, b), c),
		"(a or b) and c":           tree(18, tree(19, a, b), c),
		"a or b and c":             tree(19, a, tree(18, b, c)),
		"(a = b) = c":              tree(16, tree(16, a, b), c),
		"a < (b >= c)":             tree(12, a, tree(15, b, c)),
		"a + b < c - a":            tree(12, tree(10, a, b), tree(11, c, a)),
		"(a + b) * c":              tree(7, tree(10, a, b), c),
		"a * b + c":                tree(10, tree(7, a, b), c),
		"not (a and b)":            tree(5, tree(18, a, b)),
		"not (a or b)":             tree(5, tree(19, a, b)),
		"not a = b":                tree(5, tree(16, a, b)),
		"not a + b":                tree(5, tree(10, a, b)),
		"(not a) = b":              tree(16, tree(5, a), b),
		"a = (not b)":              tree(16, a, tree(5, b)),
		"(not a) + b":              tree(10, tree(5, a), b),
		"a + (not b)":              tree(10, a, tree(5, b)),
		"not a and not b":          tree(18, tree(5, a), tree(5, b)),
		"-(a + b)":                 tree(6, tree(10, a, b)),
		"-(a * b)":                 tree(6, tree(7, a, b)),
		"-(a = b)":                 tree(6, tree(16, a, b)),
		"-(not a)":                 tree(6, tree(5, a)),
		"-(a and b)":               tree(6, tree(18, a, b)),
		"-a * -b":                  tree(7, tree(6, a), tree(6, b)),
		"a - -b":                   tree(11, a, tree(6, b)),
		"-count(a) - 1":            tree(11, tree(6, count("a")), whole(1)),
		"(a or b) + (a and b)":     tree(10, tree(19, a, b), tree(18, a, b)),
		"((a or b) and c) * a":     tree(7, tree(18, tree(19, a, b), c), a),
		"a.b + 1 > 2 and not c":    tree(18, tree(14, tree(10, path("a.b"), whole(1)), whole(2)), tree(5, c)),
		"number(t, failed) % 2":    tree(9, number("t", 5), whole(2)),
		"true or false and \"or\"": tree(19, truth(true), tree(18, truth(false), text("or"))),
	} {
		if s, err := Print(n); s != want || err != api.OK {
			t.Errorf("Print(%s) = %q, error %d, want %q", form(n), s, err, want)
		}
	}
}

// tightness is the place of each operator in the grammar.
var tightness = map[int]int{19: 1, 18: 2, 5: 3, 12: 4, 13: 4, 14: 4, 15: 4, 16: 4, 17: 4, 10: 5, 11: 5, 7: 6, 8: 6, 9: 6, 6: 7}

// filled are the trees of an operator of which one kid, at a place, is n.
func filled(op, place int, n api.Node) api.Node {
	switch {
	case op < 7:
		return tree(op, n)
	case place == 0:
		return tree(op, n, path("z"))
	}
	return tree(op, path("z"), n)
}

// expected is the text of such a tree by the rules of the chapter.
func expected(op, place int, kid string, tight int) string {
	enclosed := tight < tightness[op] || op >= 7 && tight == tightness[op] && (place == 1 || tight == 4)
	if enclosed {
		kid = "(" + kid + ")"
	}
	switch {
	case op == 5:
		return "not " + kid
	case op == 6:
		return "-" + kid
	case place == 0:
		return kid + " " + marks[op] + " z"
	}
	return "z " + marks[op] + " " + kid
}

func TestP9_2EveryPair(t *testing.T) {
	for outer := 5; outer <= 19; outer++ {
		for place := range 2 {
			for inner := 5; inner <= 19; inner++ {
				kid := filled(inner, 0, path("a"))
				n := filled(outer, place, kid)
				want := expected(outer, place, expected(inner, 0, "a", 9), tightness[inner])
				if s, err := Print(n); s != want || err != api.OK {
					t.Errorf("Print(%s) = %q, error %d, want %q", form(n), s, err, want)
				}
				wantTree(t, want, n)
			}
			for _, leaf := range []api.Node{whole(1), text("("), path("a.b"), count("a"), number("a", 4)} {
				s, _ := Print(leaf)
				want := expected(outer, place, s, 9)
				if got, err := Print(filled(outer, place, leaf)); got != want || err != api.OK {
					t.Errorf("Print = %q, error %d, want %q", got, err, want)
				}
			}
		}
	}
}

func TestP9_2PrintLength(t *testing.T) {
	long := func(many int) string { return strings.Repeat("n", many) }
	for _, x := range []struct {
		n    api.Node
		want int
	}{
		{path(long(400)), 400},
		{path(long(401)), 0},
		{path(long(199) + "." + long(200)), 400},
		{path(long(200) + "." + long(200)), 0},
		{path(strings.Repeat("a.", 199) + "ab"), 400},
		{path(strings.Repeat("a.", 200) + "a"), 0},
		{count(long(393)), 400},
		{count(long(394)), 0},
		{number(long(384), 4), 400},
		{number(long(385), 4), 0},
		{number(long(380), 8), 400},
		{number(long(381), 8), 0},
		{tree(5, path(long(396))), 400},
		{tree(5, path(long(397))), 0},
		{tree(6, path(long(399))), 400},
		{tree(6, path(long(400))), 0},
		{tree(19, path(long(196)), path(long(200))), 400},
		{tree(19, path(long(197)), path(long(200))), 0},
		{tree(11, whole(1), tree(11, whole(1), path(long(390)))), 400},
		{tree(11, whole(1), tree(11, whole(1), path(long(391)))), 0},
		{tree(10, text(long(256)), text(long(137))), 400},
		{tree(10, text(long(256)), text(long(138))), 0},
		{text(strings.Repeat(`\`, 199)), 400},
		{text(strings.Repeat(`"`, 200)), 0},
		{text(strings.Repeat("\u20ac", 85)), 257},
		{shared(10, 6, path("a")), 32 + 31*3 + 2*(1+2+4+8)},
		{shared(10, 9, path("a")), 0},
		{path(strings.Repeat(long(1000)+".", 1000) + "a"), 0},
	} {
		s, err := Print(x.n)
		if x.want == 0 && (s != "" || err != api.ErrFull) || x.want > 0 && (len(s) != x.want || err != api.OK) {
			t.Errorf("Print(%.60s): %d bytes, error %d, want %d bytes", form(x.n), len(s), err, x.want)
		}
	}
	// A tree that is not valid, and too long, too, is not valid.
	if s, err := Print(tree(10, path(long(500)), whole(-1))); s != "" || err != api.ErrArg {
		t.Errorf("Print = %.60q, error %d", s, err)
	}
}

// A tree as deep as it may be, with as many kids as it may have: the text would have millions of bytes.
func TestP9_2PrintHuge(t *testing.T) {
	n := shared(10, 24, path("a"))
	if s, err := Print(n); s != "" || err != api.ErrFull {
		t.Errorf("Print = %.60q, error %d", s, err)
	}
}
