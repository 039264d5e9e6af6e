package check

import (
	"maps"
	"math/rand"
	"slices"
	"strings"
	"testing"

	"dossier/api"
	"dossier/eval"
	"dossier/expr"
	"dossier/value"
)

// A case has definitions as a flat list of paths and kinds, and instances of them with values.
type sketch struct {
	kinds map[string]int
	held  map[string]api.Value
}

// flat adds a list of definitions; those behind another one of their name do not count.
func (k sketch) flat(up string, l []api.FileItem) {
	for i, f := range l {
		if !slices.ContainsFunc(l[:i], func(g api.FileItem) bool { return g.Name == f.Name }) {
			k.kinds[up+f.Name] = f.Kind
			k.flat(up+f.Name+".", f.Kids)
		}
	}
}

// kindOf is the kind of a tree, or its first error.
func (k sketch) kindOf(n api.Node, items []string) (int, api.Errno) {
	var kinds []int
	for _, kid := range n.Kids {
		kind, err := k.kindOf(kid, items)
		if err != api.OK {
			return none, err
		}
		kinds = append(kinds, kind)
	}
	switch n.Op {
	case api.OpValue:
		return n.Value.Kind, api.OK
	case api.OpNumber:
		for _, item := range items {
			if item == n.Text {
				return whole, api.OK
			}
		}
		return none, api.ErrName
	case api.OpPath, api.OpCount:
		kind, is := k.kinds[n.Text]
		switch {
		case !is:
			return none, api.ErrName
		case n.Op == api.OpCount:
			return whole, api.OK
		case kind == none:
			return none, api.ErrKind
		}
		return kind, api.OK
	}
	return resultOf(n.Op, kinds)
}

// resultOf is the kind of an operator's result.
func resultOf(op int, kinds []int) (int, api.Errno) {
	same, first := kinds[0] == kinds[len(kinds)-1], kinds[0]
	kind, fits := truth, false
	switch op {
	case api.OpNot, api.OpAnd, api.OpOr:
		fits = same && first == truth
	case api.OpNeg, api.OpMul, api.OpDiv, api.OpMod, api.OpAdd, api.OpSub:
		kind, fits = whole, same && first == whole
	case api.OpLess, api.OpMost, api.OpMore, api.OpLeast:
		fits = same && (first == whole || first == text)
	case api.OpSame, api.OpOther:
		fits = same
	}
	if !fits {
		return none, api.ErrKind
	}
	return kind, api.OK
}

// filled is a case with an instance of each definition, which has a value of its kind, or none.
func (k sketch) filled(r *rand.Rand) api.Case {
	var c api.Case
	for _, path := range slices.Sorted(maps.Keys(k.held)) {
		v := k.held[path]
		if v.Kind != k.kinds[path] {
			v = api.Value{}
		}
		c.Docs = append(c.Docs, api.Doc{Path: strings.ReplaceAll(path, ".", "#1.") + "#1", Value: v})
	}
	for range r.Intn(6) {
		c.Insts = append(c.Insts, api.Inst{Item: pick(r, "s", "t"), State: 1 + r.Intn(8)})
	}
	return c
}

func pick[T any](r *rand.Rand, l ...T) T { return l[r.Intn(len(l))] }

var fileNames = []string{"a", "b", "c", "d"}

func someFiles(r *rand.Rand, levels int) []api.FileItem {
	var l []api.FileItem
	for range r.Intn(5) {
		f := file(pick(r, fileNames...), r.Intn(4))
		if levels > 1 {
			f.Kids = someFiles(r, levels-1)
		}
		l = append(l, f)
	}
	return l
}

func somePath(r *rand.Rand, known []string) string {
	if len(known) > 0 && r.Intn(15) > 0 {
		return pick(r, known...)
	}
	return pick(r, "a", "b", "d.a", "c.b.a", "a.b.c.d", "e")
}

// someTree is a valid tree, which is mostly of a kind.
func someTree(r *rand.Rand, deep, kind int, byKind [4][]string) api.Node {
	if r.Intn(12) == 0 {
		kind = 1 + r.Intn(3)
	}
	node := func(op int, kinds ...int) api.Node {
		n := api.Node{Op: op}
		for _, kid := range kinds {
			n.Kids = append(n.Kids, someTree(r, deep-1, kid, byKind))
		}
		return n
	}
	if deep <= 1 || kind == text || r.Intn(3) == 0 {
		return someLeaf(r, kind, byKind)
	}
	if kind == whole {
		if r.Intn(5) == 0 {
			return node(api.OpNeg, whole)
		}
		return node(api.OpMul+r.Intn(5), whole, whole)
	}
	switch r.Intn(5) {
	case 0:
		return node(api.OpNot, truth)
	case 1, 2:
		return node(pick(r, api.OpAnd, api.OpOr), truth, truth)
	case 3:
		both := pick(r, whole, text)
		return node(api.OpLess+r.Intn(4), both, both)
	}
	both := pick(r, whole, truth, text)
	return node(pick(r, api.OpSame, api.OpOther), both, both)
}

func someLeaf(r *rand.Rand, kind int, byKind [4][]string) api.Node {
	if r.Intn(2) == 0 {
		return api.Node{Op: api.OpPath, Text: somePath(r, byKind[kind])}
	}
	switch {
	case kind == truth:
		return api.Node{Op: api.OpValue, Value: value.Bool(r.Intn(2) == 0)}
	case kind == text:
		return api.Node{Op: api.OpValue, Value: value.Text(pick(r, "", "a", "b"))}
	case r.Intn(3) == 0:
		return api.Node{Op: api.OpCount, Text: somePath(r, byKind[r.Intn(4)])}
	case r.Intn(2) == 0:
		return api.Node{Op: api.OpNumber, Text: pick(r, "s", "t", "s", "t", "s", "t", "u"), Int: 1 + r.Intn(8)}
	}
	return api.Node{Op: api.OpValue, Value: value.Int(pick(r, 0, 1, 2, 1<<63-1))}
}

// drawn is a random tree with definitions for it.
func drawn(r *rand.Rand, deep int) (sketch, []api.FileItem, api.Node) {
	l := someFiles(r, 3)
	k := sketch{map[string]int{}, map[string]api.Value{}}
	k.flat("", l)
	var byKind [4][]string
	for path, kind := range k.kinds {
		byKind[kind] = append(byKind[kind], path)
	}
	for kind := range byKind {
		slices.Sort(byKind[kind])
		for _, path := range byKind[kind] {
			k.held[path] = pick(r, value.Int(r.Intn(5)), value.Bool(r.Intn(2) == 0), value.Text(pick(r, "", "a")))
		}
	}
	return k, l, someTree(r, deep, 1+r.Intn(3), byKind)
}

func TestP10_1Sketch(t *testing.T) {
	r := rand.New(rand.NewSource(10))
	met := map[api.Errno]int{}
	for i := range 60000 {
		k, l, n := drawn(r, 1+i%7)
		want, wantErr := k.kindOf(n, []string{"t", "s"})
		if kind, err := Kind(n, l, []string{"t", "s"}); kind != want || err != wantErr {
			s, _ := expr.Print(n)
			t.Fatalf("Kind(%s) of %+v = %d, error %d, want %d, error %d", s, l, kind, err, want, wantErr)
		}
		met[wantErr]++
	}
	if met[api.OK] < 10000 || met[api.ErrName] < 5000 || met[api.ErrKind] < 3000 {
		t.Error("one-sided:", met)
	}
}

func TestP10_2Sketch(t *testing.T) {
	r := rand.New(rand.NewSource(102))
	met := map[api.Errno]int{}
	for i := range 20000 {
		k, l, n := drawn(r, 1+i%5)
		s, err := expr.Print(n)
		if err != api.OK {
			continue
		}
		kind, want := k.kindOf(n, []string{"s"})
		if want == api.OK && kind != truth {
			want = api.ErrKind
		}
		if err := Truth(s, l, []string{"s"}); err != want {
			t.Fatalf("Truth(%s) of %+v = error %d, want error %d", s, l, err, want)
		}
		met[want]++
	}
	if met[api.OK] < 2000 || met[api.ErrName] < 2000 || met[api.ErrKind] < 2000 {
		t.Error("one-sided:", met)
	}
}

func TestP10_3ValueIsOfTheKind(t *testing.T) {
	r := rand.New(rand.NewSource(103))
	var met [4]int
	for i := range 60000 {
		k, l, n := drawn(r, 1+i%7)
		kind, err := Kind(n, l, []string{"s", "t"})
		if err != api.OK {
			continue
		}
		v, is := eval.Eval(n, k.filled(r))
		if is && (v.Kind != kind || !value.Can(v)) {
			s, _ := expr.Print(n)
			t.Fatalf("%s of the kind %d has the value %+v", s, kind, v)
		}
		if is {
			met[kind]++
		}
	}
	if met[none] > 0 || met[whole] < 1000 || met[truth] < 1000 || met[text] < 1000 {
		t.Error("one-sided:", met)
	}
}

// A long list of definitions, and a tree with as many kids as it may have.
func TestP10_1Large(t *testing.T) {
	var l []api.FileItem
	for i := range 10000 {
		l = append(l, file("x"+strings.Repeat("y", i%100), none))
	}
	l = append(l, file("i", whole))
	n := api.Node{Op: api.OpPath, Text: "i"}
	for range 12 {
		n = api.Node{Op: api.OpAdd, Kids: []api.Node{n, n}}
	}
	if kind, err := Kind(n, l, nil); kind != whole || err != api.OK {
		t.Error(kind, err)
	}
	deep := file("z", truth)
	for range 50 {
		deep = file("z", none, deep)
	}
	if err := Truth(strings.Repeat("z.", 50)+"z", []api.FileItem{deep}, nil); err != api.OK {
		t.Errorf("error %d", err)
	}
}
