package check

import (
	"math"
	"reflect"
	"strings"
	"testing"

	"dossier/api"
	"dossier/expr"
)

const (
	none  = api.KindNone
	whole = api.KindInt
	truth = api.KindBool
	text  = api.KindText
)

func file(name string, kind int, kids ...api.FileItem) api.FileItem {
	return api.FileItem{Name: name, Kind: kind, Kids: kids}
}

// files have the kinds of their names; the second ones of a name are hidden behind the first.
func files() []api.FileItem {
	return []api.FileItem{
		file("i", whole, file("b", truth), file("i", text), file("deep", none, file("deeper", whole, file("t", text)))),
		file("b", truth),
		file("t", text, file("n", none)),
		file("n", none, file("i", whole)),
		file("i", text, file("hidden", truth)),
		file("twin", truth, file("x", whole), file("x", text, file("y", whole))),
		file("a.b", whole), file("", whole, file("", truth)), file("not", whole), file("count", truth),
		file("odd", 7), file("below", -1, file("i", whole)), file("far", math.MaxInt),
	}
}

var items = []string{"task", "stage", "active", "task", "a.b", "", "not"}

func parsed(t *testing.T, s string) api.Node {
	t.Helper()
	n, err := expr.Parse(s)
	if err != api.OK {
		t.Fatalf("Parse(%q): error %d", s, err)
	}
	return n
}

func wantKind(t *testing.T, s string, want int) {
	t.Helper()
	if kind, err := Kind(parsed(t, s), files(), items); kind != want || err != api.OK {
		t.Errorf("Kind(%s) = %d, error %d, want %d", s, kind, err, want)
	}
}

func wantError(t *testing.T, s string, want api.Errno) {
	t.Helper()
	if kind, err := Kind(parsed(t, s), files(), items); kind != none || err != want {
		t.Errorf("Kind(%s) = %d, error %d, want error %d", s, kind, err, want)
	}
}

func TestP10_1Invalid(t *testing.T) {
	path := api.Node{Op: api.OpPath, Text: "b"}
	deep := path
	for range 24 {
		deep = api.Node{Op: api.OpNot, Kids: []api.Node{deep}}
	}
	for _, n := range []api.Node{
		{}, {Op: -1}, {Op: 20}, {Op: math.MaxInt}, {Op: api.OpValue}, {Op: api.OpValue, Value: api.Value{Kind: whole, Int: -1}}, {Op: api.OpValue, Value: api.Value{Kind: truth, Int: 1}}, {Op: api.OpValue, Value: api.Value{Kind: text, Text: "\x00"}},
		{Op: api.OpPath}, {Op: api.OpPath, Text: "a.b."}, {Op: api.OpPath, Text: "not"}, {Op: api.OpPath, Text: "count"}, {Op: api.OpPath, Text: "b", Int: 1}, {Op: api.OpPath, Text: "b", Kids: []api.Node{path}},
		{Op: api.OpCount, Text: "i..b"}, {Op: api.OpNumber, Text: "a.b", Int: 1}, {Op: api.OpNumber, Text: "task"}, {Op: api.OpNumber, Text: "task", Int: 9}, {Op: api.OpNumber, Text: "not", Int: 1}, {Op: api.OpNumber, Int: 1},
		{Op: api.OpNot}, {Op: api.OpNot, Kids: []api.Node{path, path}}, {Op: api.OpAnd, Kids: []api.Node{path}}, {Op: api.OpAnd, Kids: []api.Node{path, {}}}, {Op: api.OpAnd, Kids: []api.Node{path, path, path}}, {Op: api.OpNot, Text: "b", Kids: []api.Node{path}},
		deep,
		// Names that name nothing and kinds that do not fit come after.
		{Op: api.OpAdd, Kids: []api.Node{{Op: api.OpPath, Text: "unknown"}, {}}}, {Op: api.OpAnd, Kids: []api.Node{{Op: api.OpNeg, Kids: []api.Node{path}}, {}}},
	} {
		if kind, err := Kind(n, files(), items); kind != none || err != api.ErrArg {
			t.Errorf("Kind(%+v) = %d, error %d", n, kind, err)
		}
	}
	if kind, err := Kind(deep.Kids[0], files(), items); kind != truth || err != api.OK {
		t.Error("as deep as may be:", kind, err)
	}
}

func TestP10_1Leaves(t *testing.T) {
	for s, kind := range map[string]int{
		"0": whole, "9223372036854775807": whole, "true": truth, "false": truth, `""`: text, `"unknown"`: text,
		"i": whole, "b": truth, "t": text, "i.b": truth, "i.i": text, "i.deep.deeper": whole, "i.deep.deeper.t": text, "n.i": whole, "twin": truth, "twin.x": whole, "below.i": whole,
		"count(i)": whole, "count(b)": whole, "count(n)": whole, "count(t.n)": whole, "count(i.deep)": whole, "count(i.deep.deeper.t)": whole, "count(odd)": whole, "count(twin.x)": whole,
		"number(task, active)": whole, "number(stage, terminated)": whole, "number(active, active)": whole,
		// A kind that there is not is a kind all the same.
		"odd": 7, "below": -1, "far": math.MaxInt,
	} {
		wantKind(t, s, kind)
	}
}

func TestP10_1Names(t *testing.T) {
	for _, s := range []string{"unknown", "I", "ii", "a", "a.b", "b.b", "i.unknown", "i.hidden", "i.deeper", "i.deep.t", "i.deep.deeper.t.t", "deep", "hidden", "twin.x.y", "twin.y", "unknown.i", "t.i", "x", "task"} {
		wantError(t, s, api.ErrName)
		wantError(t, "count("+s+")", api.ErrName)
		wantError(t, "not "+s, api.ErrName)
		wantError(t, "1 + count("+s+") > 0", api.ErrName)
	}
	for _, s := range []string{"unknown", "i", "Task", "tas", "tasks", "b", "completed", "a"} {
		wantError(t, "number("+s+", active)", api.ErrName)
	}
	for _, n := range []string{"i", "count(i)", "number(task, active)"} {
		if kind, err := Kind(parsed(t, n), nil, nil); kind != none || err != api.ErrName {
			t.Errorf("%s of nothing: %d, error %d", n, kind, err)
		}
		if kind, err := Kind(parsed(t, n), []api.FileItem{}, []string{}); kind != none || err != api.ErrName {
			t.Errorf("%s of nothing: %d, error %d", n, kind, err)
		}
	}
	if kind, err := Kind(parsed(t, `1 < 2 and "a" = "b"`), nil, nil); kind != truth || err != api.OK {
		t.Error("without names:", kind, err)
	}
}

func TestP10_1Kinds(t *testing.T) {
	for _, s := range []string{
		"n", "t.n", "i.deep", "not n", "-n", "n = n", "n + 1", "1 + n", "n.i + n", "not not n",
		"not 1", "not t", "not i", "-true", "-b", "-t", `-""`, "not count(b)", "not -1", "-(not b)", "not number(task, active)",
		"1 + true", "b + 1", `"a" + "b"`, "t + t", "b + b", "t * 1", "1 - t", "1 / b", "b % 1", "i - b",
		"1 < true", "b < b", "true >= false", "t < 1", "1 > t", "b <= t", `1 <= "1"`,
		"1 = true", "b = i", "t = i", "t != b", `1 != "1"`, "number(task, active) = true", "(1 = 1) = 1",
		"1 and 2", "b and 1", "1 or b", "t or t", "b or t", "i and b", "b and count(b)",
		"odd = odd", "odd + 1", "not odd", "-odd", "odd and odd", "odd < odd", "below = below", "far = far", "odd = 1", "odd = b",
	} {
		wantError(t, s, api.ErrKind)
	}
	for s, kind := range map[string]int{
		"not b": truth, "-i": whole, "--1": whole, "not not i.b": truth,
		"i + 1": whole, "i - n.i": whole, "i * -2": whole, "count(b) / 2": whole, "number(task, failed) % i": whole,
		"i < 1": truth, "t < \"a\"": truth, "i <= i": truth, "t > i.i": truth, "1 >= count(n)": truth,
		"i = 1": truth, "b = true": truth, "t = i.i": truth, "i != 2": truth, "b != (i = 1)": truth, "t != \"\"": truth,
		"b and true": truth, "b or i > 1": truth, "not b and i.b or t = t": truth, "(1 < 2) = (2 < 1)": truth,
	} {
		wantKind(t, s, kind)
	}
}

func TestP10_1FirstError(t *testing.T) {
	for s, want := range map[string]api.Errno{
		"unknown + true":                   api.ErrName,
		"true + unknown":                   api.ErrName, // the kids come first
		"-true + unknown":                  api.ErrKind,
		"unknown + -true":                  api.ErrName,
		"n + unknown":                      api.ErrKind,
		"unknown + n":                      api.ErrName,
		"n and number(unknown, active)":    api.ErrKind,
		"count(unknown) and n":             api.ErrName,
		"(1 + b) * unknown":                api.ErrKind,
		"1 + (b * unknown)":                api.ErrName,
		"not 1 or unknown":                 api.ErrKind,
		"unknown or not 1":                 api.ErrName,
		"1 or 2 or unknown":                api.ErrKind,
		"1 or (2 or unknown)":              api.ErrName,
		"count(n) = n":                     api.ErrKind,
		"not (number(x, active) = true)":   api.ErrName,
		"(n = unknown) = (unknown = n)":    api.ErrKind,
		"-(not (b + count(unknown)))":      api.ErrName,
		"b + 1 and count(unknown) = 1":     api.ErrKind,
		"i.deep = 1 and number(x, failed)": api.ErrKind,
	} {
		wantError(t, s, want)
	}
}

func TestP10_1Memory(t *testing.T) {
	n, l, names := parsed(t, "i.deep.deeper + count(n) > number(task, active)"), files(), append([]string{}, items...)
	Kind(n, l, names)
	Truth("i.deep.deeper > count(n)", l, names)
	if !reflect.DeepEqual(n, parsed(t, "i.deep.deeper + count(n) > number(task, active)")) || !reflect.DeepEqual(l, files()) || !reflect.DeepEqual(names, items) {
		t.Error("an argument was modified")
	}
	// What lies in the spare capacity is not there.
	if kind, err := Kind(parsed(t, "b"), l[:1], nil); kind != none || err != api.ErrName {
		t.Error(kind, err)
	}
	if kind, err := Kind(parsed(t, "number(stage, active)"), nil, names[:1]); kind != none || err != api.ErrName {
		t.Error(kind, err)
	}
}

func TestP10_2Truth(t *testing.T) {
	for s, want := range map[string]api.Errno{
		"":                                api.OK,
		"true":                            api.OK,
		"b":                               api.OK,
		"i > 1 and not i.b or t = \"\"":   api.OK,
		"number(task, active) = 0":        api.OK,
		strings.Repeat(" ", 396) + "true": api.OK,
		strings.Repeat("(", 199) + "b" + strings.Repeat(")", 199): api.OK,
		strings.Repeat("not ", 23) + "b":                          api.OK,
		strings.Repeat("not ", 24) + "b":                          api.ErrFull,
		strings.Repeat(" ", 397) + "true":                         api.ErrFull,
		strings.Repeat("#", 401):                                  api.ErrFull,
		strings.Repeat("not ", 24) + "unknown":                    api.ErrFull,
		"b !":                                                     api.ErrWord,
		"unknown + \"":                                            api.ErrWord,
		"01":                                                      api.ErrWord,
		" ":                                                       api.ErrParse,
		"unknown b":                                               api.ErrParse,
		"b and":                                                   api.ErrParse,
		"number(task, closed) = 0":                                api.ErrParse,
		"unknown":                                                 api.ErrName,
		"count(a) > 1":                                            api.ErrName,
		"number(unknown, active) = 0":                             api.ErrName,
		"b and unknown":                                           api.ErrName,
		"n":                                                       api.ErrKind,
		"n = n":                                                   api.ErrKind,
		"1 + b":                                                   api.ErrKind,
		"not 1 and unknown":                                       api.ErrKind,
		// No boolean.
		"1":                    api.ErrKind,
		"i":                    api.ErrKind,
		"t":                    api.ErrKind,
		`"true"`:               api.ErrKind,
		"count(b)":             api.ErrKind,
		"number(task, active)": api.ErrKind,
		"-1":                   api.ErrKind,
		"i + 1":                api.ErrKind,
		"odd":                  api.ErrKind,
		"below":                api.ErrKind,
	} {
		if err := Truth(s, files(), items); err != want {
			t.Errorf("Truth(%.60q) = error %d, want error %d", s, err, want)
		}
	}
}

func TestP10_2Example(t *testing.T) {
	if err := Truth("count(a) > 1", nil, nil); err != api.ErrName {
		t.Errorf("error %d", err)
	}
	if err := Truth("count(a) > 1", []api.FileItem{{Name: "a"}}, nil); err != api.OK {
		t.Errorf("error %d", err)
	}
	if err := Truth("", nil, nil); err != api.OK {
		t.Errorf("error %d", err)
	}
}
