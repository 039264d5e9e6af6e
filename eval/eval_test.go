package eval

import (
	"math"
	"reflect"
	"strings"
	"testing"

	"dossier/api"
	"dossier/expr"
	"dossier/value"
)

func doc(path string, v api.Value) api.Doc { return api.Doc{Path: path, Value: v} }

func docs(paths ...string) api.Case {
	var c api.Case
	for i, path := range paths {
		c.Docs = append(c.Docs, doc(path, value.Int(i)))
	}
	return c
}

func inst(item string, state int) api.Inst { return api.Inst{Item: item, State: state} }

// sample is a case with values of all kinds, and with parts that have none.
func sample() api.Case {
	return api.Case{
		Docs: []api.Doc{
			doc("i#1", value.Int(7)), doc("i#2", value.Int(8)), doc("minus#1", value.Int(-7)), doc("most#1", value.Int(math.MaxInt)), doc("least#1", value.Int(math.MinInt)),
			doc("yes#1", value.Bool(true)), doc("no#1", value.Bool(false)), doc("t#1", value.Text("text")), doc("blank#1", value.Text("")),
			doc("none#1", api.Value{}), doc("none#2", value.Int(1)), doc("bad#1", api.Value{Kind: api.KindBool, Int: 1}),
			doc("i#1.kid#1", value.Bool(true)), doc("i#1.kid#2", value.Text("no")), doc("i#2.kid#1", value.Int(1)),
		},
		Insts: []api.Inst{inst("p", api.Active), inst("t", api.Completed), inst("t", api.Active), inst("t", api.Completed), inst("u", api.Available)},
	}
}

func wantValue(t *testing.T, c api.Case, path string, want api.Value) {
	t.Helper()
	if v, is := Value(c, path); v != want || !is {
		t.Errorf("Value(%.80q) = %.80v, %t, want %.80v", path, v, is, want)
	}
}

func wantNoValue(t *testing.T, c api.Case, path string) {
	t.Helper()
	if v, is := Value(c, path); v != (api.Value{}) || is {
		t.Errorf("Value(%.80q) = %.80v, %t, want none", path, v, is)
	}
}

func TestP11_1ValueOfTheFirst(t *testing.T) {
	c := sample()
	wantValue(t, c, "i", value.Int(7))
	wantValue(t, c, "minus", value.Int(-7))
	wantValue(t, c, "least", value.Int(math.MinInt))
	wantValue(t, c, "yes", value.Bool(true))
	wantValue(t, c, "no", value.Bool(false))
	wantValue(t, c, "t", value.Text("text"))
	wantValue(t, c, "blank", value.Text(""))
	wantValue(t, c, "i.kid", value.Bool(true))
	// The first one decides, even if it has no value and a later one has.
	wantNoValue(t, c, "none")
	wantNoValue(t, c, "bad")
	for _, path := range []string{"", "x", "I", "ii", "kid", "i.x", "i.kid.kid", "i.kid.", "i.", ".i", "i.ki", "i#1", "i#1.kid#1", "i#1.kid", "i.kid#1", "#1", "i ", "yes.no", "t.kid"} {
		wantNoValue(t, c, path)
		wantNoValue(t, api.Case{}, path)
		wantNoValue(t, api.Case{Docs: []api.Doc{}, Insts: c.Insts}, path)
	}
	// The order of the list decides, not the numbers.
	wantValue(t, docs("a#9", "a#1", "b#2", "b#1"), "a", value.Int(0))
	wantValue(t, docs("a#9", "a#1", "b#2", "b#1"), "b", value.Int(2))
}

func TestP11_1ValuesThatAreNone(t *testing.T) {
	long := strings.Repeat("a", 256)
	for _, v := range []api.Value{
		{}, {Int: 1}, {Bool: true}, {Text: "a"}, {Kind: 4}, {Kind: -1}, {Kind: 4, Int: 1}, {Kind: math.MaxInt}, {Kind: math.MinInt},
		{Kind: api.KindInt, Bool: true}, {Kind: api.KindInt, Int: 1, Text: "a"}, {Kind: api.KindBool, Int: 1}, {Kind: api.KindBool, Bool: true, Text: "a"}, {Kind: api.KindText, Int: 1}, {Kind: api.KindText, Text: "a", Bool: true},
		value.Text(long + "a"), value.Text("\x00"), value.Text("\xff"), value.Text("\ufffe"), value.Text("a\xc3"),
	} {
		c := api.Case{Docs: []api.Doc{doc("a#1", v), doc("a#2", value.Int(1)), doc("b#1", v)}}
		wantNoValue(t, c, "a")
		wantNoValue(t, c, "b")
		if Count(c, "a") != 2 || Count(c, "b") != 1 {
			t.Errorf("%v: an instance without a value counts", v)
		}
		if Holds("count(a) = 2", c) != true || Holds("a = a", c) || Holds("b = b or true", c) {
			t.Errorf("%v in a condition", v)
		}
	}
	wantValue(t, api.Case{Docs: []api.Doc{doc("a#1", value.Text(long))}}, "a", value.Text(long))
}

// What a path of an instance is the definition of, for any texts.
var defined = map[string]string{
	"":                 "",
	"a":                "a",
	"a#1":              "a",
	"a#12":             "a",
	"a#":               "a",
	"a#x":              "a",
	"a#1#2":            "a",
	"a##":              "a",
	"a#b#c d":          "a",
	"#":                "",
	"#1":               "",
	"##1#":             "",
	"a#1.b#1":          "a.b",
	"a#1.b":            "a.b",
	"a.b#1":            "a.b",
	"a#1#2.b##.c":      "a.b.c",
	"a#1.#1":           "a.",
	"a#1.":             "a.",
	".a#1":             ".a",
	".":                ".",
	"#.#":              ".",
	"..":               "..",
	"a#1..b#2":         "a..b",
	"a#b.c":            "a.c",
	"a#1,b":            "a",
	"a b#1":            "a b",
	"not#1":            "not",
	"\u20ac#1.\xff#2":  "\u20ac.\xff",
	"a\x00#1":          "a\x00",
	"a#\u20ac.b#\xff":  "a.b",
	"a#0.b#-1":         "a.b",
	"a#1\n.b":          "a.b",
	"a.b.c.d#1.e.f.g.": "a.b.c.d.e.f.g.",
}

func TestP11_1DefinitionPaths(t *testing.T) {
	for path, base := range defined {
		c := api.Case{Docs: []api.Doc{doc("other#1", value.Bool(true)), doc(path, value.Int(5)), doc(path, value.Int(6))}}
		wantValue(t, c, base, value.Int(5))
		if n := Count(c, base); n != 2 {
			t.Errorf("Count(%q) of %q = %d", base, path, n)
		}
		for _, other := range defined {
			if other != base && (Count(c, other) != 0) {
				t.Errorf("%q is no definition path of %q", other, path)
			}
		}
		for _, other := range []string{base + ".", "." + base, base + "a", base + "#", base + "#1", base + ".a", "other.", "othe", "other.a"} {
			if n := Count(c, other); n != 0 {
				t.Errorf("Count(%q) of %q = %d", other, path, n)
			}
			wantNoValue(t, c, other)
		}
	}
	long := strings.Repeat("name#1.", 10000)
	c := docs(long, long+"a#1")
	base := strings.ReplaceAll(long, "#1", "")
	wantValue(t, c, base, value.Int(0))
	wantValue(t, c, base+"a", value.Int(1))
	wantNoValue(t, c, base+"b")
	wantNoValue(t, c, base[1:])
}

func TestP11_1Count(t *testing.T) {
	c := sample()
	for path, want := range map[string]int{"i": 2, "i.kid": 3, "none": 2, "bad": 1, "t": 1, "": 0, "x": 0, "kid": 0, "i#1": 0, "i#1.kid": 0, "i.kid.x": 0, "I": 0} {
		if n := Count(c, path); n != want {
			t.Errorf("Count(%q) = %d, want %d", path, n, want)
		}
		if n := Count(api.Case{Insts: c.Insts}, path); n != 0 {
			t.Errorf("Count(%q) of nothing = %d", path, n)
		}
	}
	var many []string
	for range 1000 {
		many = append(many, "a#1", "a#1.b#1", "b#1")
	}
	c = docs(many...)
	if Count(c, "a") != 1000 || Count(c, "a.b") != 1000 || Count(c, "b") != 1000 || Count(c, "b.a") != 0 {
		t.Error("many instances")
	}
}

func TestP11_1Number(t *testing.T) {
	c := api.Case{Insts: []api.Inst{
		{Path: "p.1", Item: "p", State: 4}, {Path: "p.1/t.1", Item: "t", State: 7}, {Path: "p.1/t.2", Item: "t", State: 4, Before: 7}, {Path: "p.1/t.3", Item: "t", State: 7, Latches: []int{4}, Due: 4},
		{Path: "t.1", Item: "u", State: 7}, {Path: "t", Item: "", State: 7}, {Item: "t", State: 0}, {Item: "t", State: 9}, {Item: "t", State: -1}, {Item: "t", State: math.MaxInt}, {Item: "a.b", State: 1}, {Item: "t#1", State: 7}, {Item: "not", State: 2},
	}}
	for _, x := range []struct {
		item        string
		state, want int
	}{
		{"p", 4, 1}, {"t", 7, 2}, {"t", 4, 1}, {"u", 7, 1}, {"", 7, 1}, {"t", 0, 1}, {"t", 9, 1}, {"t", -1, 1}, {"t", math.MaxInt, 1}, {"a.b", 1, 1}, {"t#1", 7, 1}, {"not", 2, 1},
		{"t", 1, 0}, {"t", 6, 0}, {"t", math.MinInt, 0}, {"u", 4, 0}, {"", 4, 0}, {"", 0, 0}, {"p.1", 4, 0}, {"T", 7, 0}, {"p.1/t.1", 7, 0}, {"x", 7, 0}, {"a", 1, 0},
	} {
		if n := Number(c, x.item, x.state); n != x.want {
			t.Errorf("Number(%q, %d) = %d, want %d", x.item, x.state, n, x.want)
		}
		if n := Number(api.Case{Docs: sample().Docs}, x.item, x.state); n != 0 {
			t.Errorf("Number(%q, %d) of nothing = %d", x.item, x.state, n)
		}
	}
}

func node(op int, kids ...api.Node) api.Node { return api.Node{Op: op, Kids: kids} }
func path(s string) api.Node                 { return api.Node{Op: api.OpPath, Text: s} }
func literal(v api.Value) api.Node           { return api.Node{Op: api.OpValue, Value: v} }

func wantEval(t *testing.T, s string, want api.Value) {
	t.Helper()
	n, err := expr.Parse(s)
	if err != api.OK {
		t.Fatalf("Parse(%q): error %d", s, err)
	}
	if v, is := Eval(n, sample()); v != want || !is {
		t.Errorf("Eval(%s) = %v, %t, want %v", s, v, is, want)
	}
}

func TestP11_2Values(t *testing.T) {
	for s, n := range map[string]int{
		"0": 0, "9223372036854775807": math.MaxInt, "i": 7, "minus": -7, "-minus": 7, "--i": 7, "least": math.MinInt,
		"count(i)": 2, "count(i.kid)": 3, "count(none)": 2, "count(bad)": 1, "count(x)": 0, "-count(i)": -2,
		"number(t, completed)": 2, "number(t, active)": 1, "number(t, failed)": 0, "number(x, active)": 0, "number(u, available)": 1,
		"i + 1": 8, "i - 1": 6, "1 - i": -6, "i * minus": -49, "i / 2": 3, "minus / 2": -3, "i % 4": 3, "minus % 4": -3, "2 + 3 * 4": 14, "(2 + 3) * 4": 20, "10 - 4 - 3": 3, "100 / 5 / 2": 10,
		"most + least": -1, "most - 0": math.MaxInt, "least + 0": math.MinInt, "-most - 1": math.MinInt, "least % -1": 0,
	} {
		wantEval(t, s, value.Int(n))
	}
	for s, yes := range map[string]bool{
		"true": true, "false": false, "yes": true, "no": false, "i.kid": true, "not yes": false, "not no": true, "not not yes": true,
		"i < 8": true, "i < 7": false, "i <= 7": true, "i > 7": false, "i > 6": true, "i >= 7": true, "i >= 8": false, "i = 7": true, "i != 7": false,
		`t < "z"`: true, `t >= "texu"`: false, `t = "text"`: true, `t != "text"`: false, `blank = ""`: true, `blank < t`: true, "yes = no": false, "yes != no": true,
		"yes and no": false, "yes and yes": true, "no or no": false, "no or yes": true, "yes or no and no": true, "(yes or no) and no": false,
		"count(x) = 0 and number(x, active) = 0": true,
	} {
		wantEval(t, s, value.Bool(yes))
	}
	for s, text := range map[string]string{"t": "text", "blank": "", `"a"`: "a", `"\"\\"`: `"\`} {
		wantEval(t, s, value.Text(text))
	}
}

// parts that have no value: of no instance, of one without a value, of an operator without a result.
var voids = []string{"x", "i.x", "kid", "none", "bad", "1 / 0", "i % 0", "most + 1", "least - 1", "-least", "most * 2", "least / -1", "not i", "-yes", `-"a"`, "i + yes", `t + "a"`, "i = yes", `1 = "1"`, "yes < no", `1 < "2"`, "1 and 2", "t or t", "not none", "x = x", "none = none", "x + none", "-(1 / 0)", "i / (i - 7)", "not (yes and 1)"}

func TestP11_2NoValue(t *testing.T) {
	for _, s := range voids {
		for _, s := range []string{s, "-(" + s + ")", "not (" + s + ")", "1 + (" + s + ")", "(" + s + ") * 0", "true or (" + s + ")", "(" + s + ") or true", "false and (" + s + ")", "(" + s + ") and false", "(" + s + ") = (" + s + ")", "(" + s + ") != 1", "0 * (1 + (" + s + ")) = 0 or true"} {
			n, err := expr.Parse(s)
			if err != api.OK {
				t.Fatalf("Parse(%q): error %d", s, err)
			}
			if v, is := Eval(n, sample()); v != (api.Value{}) || is {
				t.Errorf("Eval(%s) = %v, %t, want none", s, v, is)
			}
			if Holds(s, sample()) {
				t.Errorf("%s holds", s)
			}
		}
	}
}

func TestP11_2Invalid(t *testing.T) {
	deep := literal(value.Bool(true))
	for range 23 {
		deep = node(api.OpNot, deep)
	}
	if v, is := Eval(deep, api.Case{}); v != value.Bool(false) || !is {
		t.Error("as deep as may be:", v, is)
	}
	one, yes := literal(value.Int(1)), literal(value.Bool(true))
	c := docs("not#1", "a.b#1", "#1", "a b#1", "a.#1", "1#1")
	c.Insts = []api.Inst{inst("a.b", 1), inst("not", 1), inst("", 1), inst("a", 9), inst("a", 0)}
	for _, n := range []api.Node{
		{}, {Op: -1}, {Op: 20}, {Op: math.MaxInt}, {Op: math.MinInt}, {Op: 0, Value: value.Int(1)}, {Op: 20, Kids: []api.Node{one, one}}, {Op: -7, Kids: []api.Node{one, one}},
		literal(api.Value{}), literal(value.Int(-1)), literal(api.Value{Kind: 1, Bool: true}), literal(api.Value{Kind: 4}), literal(value.Text("\x00")), literal(value.Text(strings.Repeat("a", 257))),
		{Op: api.OpValue, Value: value.Int(1), Text: "a"}, {Op: api.OpValue, Value: value.Int(1), Int: 1}, {Op: api.OpValue, Value: value.Int(1), Kids: []api.Node{one}},
		path(""), path("not"), path("a b"), path("a."), path("1"), path("not#1"), {Op: api.OpPath, Text: "a.b", Int: 1}, {Op: api.OpPath, Text: "a.b", Value: value.Int(1)}, {Op: api.OpPath, Text: "a.b", Kids: []api.Node{one}},
		{Op: api.OpCount}, {Op: api.OpCount, Text: "not"}, {Op: api.OpCount, Text: "a."}, {Op: api.OpCount, Text: "a", Int: 1}, {Op: api.OpCount, Text: "a", Kids: []api.Node{one}},
		{Op: api.OpNumber, Int: 1}, {Op: api.OpNumber, Text: "a"}, {Op: api.OpNumber, Text: "a", Int: 9}, {Op: api.OpNumber, Text: "a", Int: -1}, {Op: api.OpNumber, Text: "a.b", Int: 1}, {Op: api.OpNumber, Text: "not", Int: 1}, {Op: api.OpNumber, Text: "a", Int: 1, Kids: []api.Node{one}},
		node(api.OpNot), node(api.OpNot, yes, yes), node(api.OpNeg), node(api.OpNeg, one, one), node(api.OpAdd), node(api.OpAdd, one), node(api.OpAdd, one, one, one), node(api.OpAnd, yes), node(api.OpOr, yes, yes, yes),
		{Op: api.OpNot, Kids: []api.Node{yes}, Text: "a"}, {Op: api.OpAdd, Kids: []api.Node{one, one}, Int: 1}, {Op: api.OpAdd, Kids: []api.Node{one, one}, Value: value.Int(2)},
		node(api.OpNot, deep), node(api.OpAdd, one, api.Node{}), node(api.OpOr, yes, node(api.OpNot)),
	} {
		if v, is := Eval(n, c); v != (api.Value{}) || is {
			t.Errorf("Eval(%.200v) = %v, %t, want none", n, v, is)
		}
	}
}

func TestP11_2Holds(t *testing.T) {
	c := sample()
	for _, s := range []string{"", "true", "yes", "not no", "i = 7", "count(x) = 0", "number(t, completed) = 2", "i.kid and t = \"text\"", " yes\n", "(((yes)))", strings.Repeat("not ", 22) + "yes", strings.Repeat(" ", 397) + "yes", "i>6and not no"} {
		if !Holds(s, c) {
			t.Errorf("%q does not hold", s)
		}
	}
	if !Holds("", api.Case{}) {
		t.Error("the empty condition does not hold in the empty case")
	}
	for _, s := range []string{
		"false", "no", "not yes", "i = 8", "count(i) = 0", "x", "none", "bad",
		"1", "i", "0", "-1", "t", "blank", `"true"`, "count(i)", "number(t, active)", "i + 1",
		" ", "yes yes", "yes and", "and yes", "(yes", "yes)", "yes !", "yes or #", "01 = 1", `"`, "yes or number(t, closed) = 0", "count(not) = 0", "true.yes", "\x00", "\xff", "yes\u00a0",
		strings.Repeat("not ", 24) + "yes", strings.Repeat(" ", 398) + "yes", strings.Repeat("yes or ", 24) + "yes",
	} {
		if Holds(s, c) {
			t.Errorf("%q holds", s)
		}
	}
	// Most things look like a true value only.
	for _, v := range []api.Value{{Bool: true}, {Kind: api.KindInt, Bool: true}, {Kind: api.KindText, Bool: true}, {Kind: api.KindBool, Bool: true, Int: 1}, {Kind: 4, Bool: true}, value.Int(1), value.Text("true")} {
		if Holds("a", api.Case{Docs: []api.Doc{doc("a#1", v)}}) {
			t.Errorf("%v holds", v)
		}
	}
}

func TestP11_2Example(t *testing.T) {
	if Holds("1 / 0 = 1 or true", api.Case{}) || Holds("true or 1 / 0 = 1", api.Case{}) || !Holds("0 / 1 = 1 or true", api.Case{}) {
		t.Error("1 / 0 = 1 or true")
	}
}

func TestP11_2Memory(t *testing.T) {
	c, n := sample(), node(api.OpAnd, node(api.OpSame, path("t"), literal(value.Text("text"))), path("i.kid"))
	c.Docs = append(c.Docs, doc("spare#1", value.Bool(true)))
	c.Docs = c.Docs[:len(c.Docs)-1]
	c.Insts = append(c.Insts, inst("spare", 1))[:len(c.Insts)]
	Eval(n, c)
	Value(c, "t")
	Count(c, "spare")
	Holds("number(t, active) = count(i) or spare", c)
	if !reflect.DeepEqual(c, sample()) || !reflect.DeepEqual(n, node(api.OpAnd, node(api.OpSame, path("t"), literal(value.Text("text"))), path("i.kid"))) {
		t.Error("an argument was modified")
	}
	// What lies in the spare capacity is not there.
	if Count(c, "spare") != 0 || Number(c, "spare", 1) != 0 || Holds("spare", c) {
		t.Error("the spare capacity counts")
	}
	if x := c.Docs[:cap(c.Docs)][len(c.Docs)]; x.Path != "spare#1" || x.Value != value.Bool(true) {
		t.Error("the spare capacity was modified:", x)
	}
}

// A tree of which all kids of a level are one piece of memory is small to make, and large to go through.
func TestP11_2Large(t *testing.T) {
	n := path("a")
	for range 18 {
		n = node(api.OpAdd, n, n)
	}
	if v, is := Eval(n, api.Case{Docs: []api.Doc{doc("b#1", value.Int(2)), doc("a#1", value.Int(3))}}); v != value.Int(3<<18) || !is {
		t.Error(v, is)
	}
	for range 2000 {
		n = node(api.OpAdd, n, n)
	}
	if v, is := Eval(n, docs("a#1")); v != (api.Value{}) || is {
		t.Error("too deep:", v, is)
	}
}
