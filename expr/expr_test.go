package expr

import (
	"math"
	"reflect"
	"strconv"
	"strings"
	"testing"

	"dossier/api"
)

func whole(n int) api.Node   { return api.Node{Op: 1, Value: api.Value{Kind: 1, Int: n}} }
func truth(b bool) api.Node  { return api.Node{Op: 1, Value: api.Value{Kind: 2, Bool: b}} }
func text(s string) api.Node { return api.Node{Op: 1, Value: api.Value{Kind: 3, Text: s}} }
func path(s string) api.Node { return api.Node{Op: 2, Text: s} }
func count(s string) api.Node {
	return api.Node{Op: 3, Text: s}
}
func number(s string, state int) api.Node {
	return api.Node{Op: 4, Text: s, Int: state}
}
func tree(op int, kids ...api.Node) api.Node { return api.Node{Op: op, Kids: kids} }

// marks are the operators by number, those of one kid first.
var marks = map[int]string{5: "not", 6: "neg", 7: "*", 8: "/", 9: "%", 10: "+", 11: "-", 12: "<", 13: "<=", 14: ">", 15: ">=", 16: "=", 17: "!=", 18: "and", 19: "or"}

var statesNamed = []string{"", "available", "enabled", "disabled", "active", "failed", "suspended", "completed", "terminated"}

// form writes a tree with each operator ahead of its kids, between parentheses.
func form(n api.Node) string {
	switch {
	case n.Op == 1 && n.Value.Kind == 1:
		return strconv.Itoa(n.Value.Int)
	case n.Op == 1 && n.Value.Kind == 2:
		return strconv.FormatBool(n.Value.Bool)
	case n.Op == 1:
		return strconv.Quote(n.Value.Text)
	case n.Op == 2:
		return n.Text
	case n.Op == 3:
		return "#" + n.Text
	case n.Op == 4:
		return "#" + n.Text + ":" + strconv.Itoa(n.Int)
	}
	s := "(" + marks[n.Op]
	for _, kid := range n.Kids {
		s += " " + form(kid)
	}
	return s + ")"
}

// times is op upon op upon op .. upon n.
func times(op, many int, n api.Node) api.Node {
	for range many {
		n = tree(op, n)
	}
	return n
}

// shared is a tree of which all kids of a level are one piece of memory: small to make, and large to go through.
func shared(op, depth int, n api.Node) api.Node {
	for range depth - 1 {
		n = tree(op, n, n)
	}
	return n
}

func valid() []api.Node {
	long := strings.Repeat("n", 401)
	l := []api.Node{
		whole(0), whole(7), whole(math.MaxInt), truth(false), truth(true), text(""), text("a"), text("\"\\\n\u20ac"), text(strings.Repeat("a", 256)),
		path("a"), path("a.b"), path("_.Z9.a_0"), path("active"), path("nots.And.tru"), path(long), path(long + "." + long), path("a" + strings.Repeat(".a", 5000)),
		count("a"), count("a.b.c"), count(long), number("a", 1), number("completed", 8), number(long, 4), number("a_1", 3),
		tree(5, path("a")), tree(6, text("a")), {Op: 2, Text: "a", Kids: []api.Node{}}, {Op: 1, Value: api.Value{Kind: 1}, Kids: make([]api.Node, 0, 5)},
		times(5, 23, path("a")), times(6, 23, whole(1)), shared(10, 10, path("a")),
	}
	for state := 1; state <= 8; state++ {
		l = append(l, number("a", state))
	}
	for op := 7; op <= 19; op++ {
		l = append(l, tree(op, path("a"), text("b")), tree(op, tree(op, whole(1), truth(true)), tree(5, count("c"))))
	}
	return l
}

// names that are none: keywords, other tokens, more than a token.
var wrongNames = []string{"", " ", "and", "or", "not", "true", "false", "count", "number", "1", "1a", "a ", " a", "a b", "a-b", "a+", "-", "\"a\"", "(a)", "a#1", "\u00e9", "a\u00e9", "a\x00", "\xff", "a\n", "@"}

func invalid() []api.Node {
	l := []api.Node{
		{}, {Kids: []api.Node{path("a"), path("b")}}, {Text: "a"}, {Value: api.Value{Kind: 1}},
		whole(-1), whole(math.MinInt), {Op: 1}, {Op: 1, Value: api.Value{Int: 1}}, {Op: 1, Value: api.Value{Kind: 4}}, {Op: 1, Value: api.Value{Kind: -1}},
		{Op: 1, Value: api.Value{Kind: 2, Int: 1}}, {Op: 1, Value: api.Value{Kind: 1, Bool: true}}, {Op: 1, Value: api.Value{Kind: 3, Text: "a", Int: 1}},
		text("\x00"), text("\xff"), text("\ufffe"), text(strings.Repeat("a", 257)), text(strings.Repeat("\u20ac", 86)),
		{Op: 1, Value: api.Value{Kind: 1}, Text: "a"}, {Op: 1, Value: api.Value{Kind: 1}, Int: 1}, tree(1, path("a")), {Op: 1, Value: api.Value{Kind: 1}, Kids: []api.Node{path("a")}},
		{Op: 2}, {Op: 2, Text: "a", Int: 1}, {Op: 2, Text: "a", Value: api.Value{Kind: 1}}, {Op: 2, Text: "a", Value: api.Value{Bool: true}}, {Op: 2, Text: "a", Kids: []api.Node{path("a")}},
		path("."), path("a."), path(".a"), path("a..b"), path("a. b"), path("a.b."), path("a.not"), path("not.a"), path("a.1"), path("a.count.b"),
		{Op: 3}, {Op: 3, Text: "a", Int: 1}, {Op: 3, Text: "a", Value: api.Value{Text: "b"}}, {Op: 3, Text: "a", Kids: []api.Node{path("a")}}, count("a..b"), count("count(a)"),
		number("a", 0), number("a", 9), number("a", -1), number("a", math.MaxInt), number("a", math.MinInt), number("a", 1<<32+1), number("a.b", 1), number("a.", 1),
		{Op: 4, Text: "a", Int: 1, Value: api.Value{Kind: 1}}, {Op: 4, Text: "a", Int: 1, Kids: []api.Node{path("a")}},
		times(5, 24, path("a")), times(6, 24, whole(1)), times(5, 60000, path("a")), shared(10, 25, path("a")), shared(18, 1000, path("a")),
	}
	for _, s := range wrongNames {
		l = append(l, path(s), path("a."+s), path(s+".a"), count(s), number(s, 1))
	}
	for op := 5; op <= 19; op++ {
		l = append(l, wrongOperators(op)...)
	}
	for _, op := range []int{-1, 0, 20, 21, math.MaxInt, math.MinInt, 1<<32 + 5, 1<<32 + 10, -10} {
		l = append(l, api.Node{Op: op}, tree(op, path("a")), tree(op, path("a"), path("b")), api.Node{Op: op, Text: "a"}, api.Node{Op: op, Value: api.Value{Kind: 1}}, api.Node{Op: op, Text: "a", Int: 1})
	}
	return l
}

// wrongOperators are trees of an operator that have too few kids, too many, a wrong one, or another field.
func wrongOperators(op int) []api.Node {
	kids := []api.Node{path("a"), path("b")}
	if op < 7 {
		kids = kids[:1]
	}
	l := []api.Node{tree(op), tree(op, kids[1:]...), tree(op, append(kids, path("c"))...), tree(op, make([]api.Node, 1000)...)}
	l = append(l, api.Node{Op: op, Kids: kids, Text: "a"}, api.Node{Op: op, Kids: kids, Int: 1}, api.Node{Op: op, Kids: kids, Value: api.Value{Kind: 1}}, api.Node{Op: op, Kids: kids, Value: api.Value{Text: "a"}})
	for i := range kids {
		for _, bad := range []api.Node{{}, whole(-1), path("not"), tree(5), {Op: 20}, tree(10, path("a"), path("1"))} {
			wrong := append([]api.Node{}, kids...)
			wrong[i] = bad
			l = append(l, tree(op, wrong...))
		}
	}
	return l
}

func TestP9_2CanValid(t *testing.T) {
	for i, n := range valid() {
		if !Can(n) {
			t.Errorf("%d: %.200v is valid", i, form(n))
		}
	}
}

func TestP9_2CanInvalid(t *testing.T) {
	for i, n := range invalid() {
		if Can(n) {
			t.Errorf("%d: a node with the operator %d and the text %.60q is not valid", i, n.Op, n.Text)
		}
		if s, err := Print(n); s != "" || err != api.ErrArg {
			t.Errorf("%d: Print = %.60q, error %d", i, s, err)
		}
	}
}

func TestP9_2CanDepth(t *testing.T) {
	for op := 7; op <= 19; op++ {
		left, right := path("a"), path("a")
		for depth := 1; depth <= 30; depth++ {
			if want := depth <= 24; Can(left) != want || Can(right) != want || Can(times(5, depth-1, path("a"))) != want {
				t.Errorf("operator %d, depth %d: not %t", op, depth, want)
			}
			left, right = tree(op, left, path("a")), tree(op, path("a"), right)
		}
	}
	// A leaf is what is too deep, but for its depth it would be wrong, too.
	if Can(times(5, 24, api.Node{})) || Can(times(5, 23, api.Node{})) || !Can(times(5, 23, number("a", 1))) {
		t.Error("the leaf")
	}
}

func TestP9_2CanNames(t *testing.T) {
	for c := range 256 {
		letter := c >= 'A' && c <= 'Z' || c >= 'a' && c <= 'z' || c == '_'
		later := letter || c >= '0' && c <= '9'
		first, second := string([]byte{byte(c)}), "x"+string([]byte{byte(c)})
		if Can(path(first)) != letter || Can(count(first)) != letter || Can(number(first, 1)) != letter {
			t.Errorf("the name %q", first)
		}
		if Can(number(second, 1)) != later || Can(path("a."+second)) != later {
			t.Errorf("the name %q", second)
		}
	}
}

func TestP9_3Depth(t *testing.T) {
	for want, n := range map[int]api.Node{
		2:     tree(5, path("a")),
		3:     tree(10, path("a"), tree(11, path("b"), path("c"))),
		4:     tree(18, tree(5, tree(6, path("a"))), path("b")),
		5:     tree(99, path("a"), tree(-1, tree(1), times(0, 2, path("b"))), path("c")), // made by hand
		401:   times(5, 400, path("a")),
		65000: times(0, 64999, api.Node{}),
		20:    shared(10, 20, path("a")),
	} {
		if got := Depth(n); got != want {
			t.Errorf("Depth = %d, want %d", got, want)
		}
	}
	for _, n := range []api.Node{{}, path("a"), {Op: 5, Kids: []api.Node{}}, whole(-1)} {
		if Depth(n) != 1 {
			t.Errorf("Depth(%+v) = %d", n, Depth(n))
		}
	}
	if wide := tree(0, make([]api.Node, 200000)...); Depth(wide) != 2 {
		t.Error("a wide tree:", Depth(wide))
	}
}

func TestP9_3Keyword(t *testing.T) {
	for _, s := range []string{"and", "or", "not", "true", "false", "count", "number"} {
		if !Keyword(s) {
			t.Errorf("%q is a keyword", s)
		}
		for _, other := range []string{strings.ToUpper(s), strings.ToUpper(s[:1]) + s[1:], s + " ", " " + s, s + "s", s[1:], s + "\x00"} {
			if Keyword(other) {
				t.Errorf("%q is no keyword", other)
			}
		}
	}
	for _, s := range append([]string{"", "a", "=", "(", "xor", "if", "null", "none", "mod", "div", "numbers", strings.Repeat("not", 100000)}, statesNamed...) {
		if Keyword(s) {
			t.Errorf("%.60q is no keyword", s)
		}
	}
}

func TestP9_3State(t *testing.T) {
	for state := 1; state <= 8; state++ {
		s := statesNamed[state]
		if n, is := State(s); n != state || !is {
			t.Errorf("State(%q) = %d, %t", s, n, is)
		}
		if got := StateName(state); got != s {
			t.Errorf("StateName(%d) = %q", state, got)
		}
		for _, other := range []string{strings.ToUpper(s), strings.ToUpper(s[:1]) + s[1:], s + " ", " " + s, s[1:], s[:len(s)-1], s + s} {
			if n, is := State(other); n != 0 || is {
				t.Errorf("State(%q) = %d, %t", other, n, is)
			}
		}
	}
	for _, s := range []string{"", "closed", "a", "0", "1", "initialized", "not", strings.Repeat("active", 100000)} {
		if n, is := State(s); n != 0 || is {
			t.Errorf("State(%.60q) = %d, %t", s, n, is)
		}
	}
	for _, state := range []int{0, -1, 9, 10, 14, 1 << 32, 1<<32 + 1, math.MaxInt, math.MinInt} {
		if s := StateName(state); s != "" {
			t.Errorf("StateName(%d) = %q", state, s)
		}
	}
}

// copied is a tree that shares no list with n.
func copied(n api.Node) api.Node {
	kids := n.Kids
	n.Kids = nil
	for _, kid := range kids {
		n.Kids = append(n.Kids, copied(kid))
	}
	return n
}

func TestP9_2Memory(t *testing.T) {
	n := tree(18, tree(5, path("a")), tree(16, tree(10, whole(1), count("b")), text("c")))
	before := copied(n)
	Can(n)
	Depth(n)
	Print(n)
	if !reflect.DeepEqual(n, before) {
		t.Error("the argument was modified:", form(n))
	}
	// The spare capacity of a list is not looked at.
	kids := []api.Node{path("a"), path("b"), {}}
	if n := (api.Node{Op: 10, Kids: kids[:2]}); !Can(n) || Depth(n) != 2 {
		t.Error("the spare capacity counts")
	}
}
