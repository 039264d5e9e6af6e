package eval

import (
	"math/big"
	"math/rand"
	"regexp"
	"strings"
	"testing"

	"dossier/api"
	"dossier/expr"
	"dossier/value"
)

func pick[T any](r *rand.Rand, l ...T) T { return l[r.Intn(len(l))] }

var numbers = regexp.MustCompile(`#[^.]*`)

// The sketch is of values as any: *big.Int, bool, string; nil is none.
func sketched(n api.Node, c api.Case) any {
	switch n.Op {
	case api.OpValue:
		return plain(n.Value)
	case api.OpPath:
		for _, d := range c.Docs {
			if numbers.ReplaceAllString(d.Path, "") == n.Text {
				return plain(d.Value)
			}
		}
		return nil
	case api.OpCount:
		count := int64(0)
		for _, d := range c.Docs {
			if numbers.ReplaceAllString(d.Path, "") == n.Text {
				count++
			}
		}
		return big.NewInt(count)
	case api.OpNumber:
		states := map[[2]any]int64{}
		for _, x := range c.Insts {
			states[[2]any{x.Item, x.State}]++
		}
		return big.NewInt(states[[2]any{n.Text, n.Int}])
	}
	var kids []any
	for _, kid := range n.Kids {
		kids = append(kids, sketched(kid, c))
	}
	return applied(n.Op, kids)
}

func plain(v api.Value) any {
	switch {
	case v.Kind == 1 && !v.Bool && v.Text == "":
		return big.NewInt(int64(v.Int))
	case v.Kind == 2 && v.Int == 0 && v.Text == "":
		return v.Bool
	case v.Kind == 3 && v.Int == 0 && !v.Bool && !strings.Contains(v.Text, "\x00"):
		return v.Text
	}
	return nil
}

func applied(op int, kids []any) any {
	a, b := kids[0], kids[len(kids)-1]
	switch a := a.(type) {
	case *big.Int:
		if b, is := b.(*big.Int); is {
			return appliedToInts(op, a, b)
		}
	case bool:
		b, is := b.(bool)
		switch {
		case !is:
		case op == 5:
			return !a
		case op == 16:
			return a == b
		case op == 17:
			return a != b
		case op == 18:
			return a && b
		case op == 19:
			return a || b
		}
	case string:
		if b, is := b.(string); is {
			return compared(op, strings.Compare(a, b))
		}
	}
	return nil
}

func appliedToInts(op int, a, b *big.Int) any {
	x := new(big.Int)
	switch {
	case op == 6:
		x.Neg(a)
	case op == 7:
		x.Mul(a, b)
	case op == 8 && b.Sign() != 0:
		x.Quo(a, b)
	case op == 9 && b.Sign() != 0:
		x.Rem(a, b)
	case op == 10:
		x.Add(a, b)
	case op == 11:
		x.Sub(a, b)
	case op == 8 || op == 9:
		return nil
	default:
		return compared(op, a.Cmp(b))
	}
	if !x.IsInt64() {
		return nil
	}
	return x
}

func compared(op, sign int) any {
	if op < 12 || op > 17 {
		return nil
	}
	return []bool{sign < 0, sign <= 0, sign > 0, sign >= 0, sign == 0, sign != 0}[op-12]
}

func someValue(r *rand.Rand) api.Value {
	return pick(r, value.Int(r.Intn(4)), value.Int(-1-r.Intn(3)), value.Int(1<<62), value.Int(-1<<63), value.Bool(true), value.Bool(false), value.Text(""), value.Text("a"), value.Text("b"), api.Value{}, api.Value{Kind: 1, Bool: true}, value.Text("\x00"))
}

func someCase(r *rand.Rand) api.Case {
	var c api.Case
	for range r.Intn(8) {
		path := pick(r, "a", "b", "c")
		for range r.Intn(3) {
			path += pick(r, "", "#1", "#2", "#", "#x#y") + pick(r, ".", ".", ".", "") + pick(r, "a", "b", "c")
		}
		c.Docs = append(c.Docs, doc(path+pick(r, "#1", "#2", ""), someValue(r)))
	}
	for range r.Intn(8) {
		c.Insts = append(c.Insts, inst(pick(r, "s", "t"), r.Intn(10)))
	}
	return c
}

// someTree is a valid tree, mostly of operators that apply to values of a kind.
func someTree(r *rand.Rand, deep, kind int) api.Node {
	if r.Intn(15) == 0 {
		kind = 1 + r.Intn(3)
	}
	if deep <= 1 || kind == api.KindText || r.Intn(4) == 0 {
		return someLeaf(r, kind)
	}
	if kind == api.KindInt {
		if r.Intn(5) == 0 {
			return node(api.OpNeg, someTree(r, deep-1, kind))
		}
		return node(api.OpMul+r.Intn(5), someTree(r, deep-1, kind), someTree(r, deep-1, kind))
	}
	switch r.Intn(4) {
	case 0:
		return node(api.OpNot, someTree(r, deep-1, kind))
	case 1:
		both := 1 + r.Intn(3)
		return node(api.OpLess+r.Intn(6), someTree(r, deep-1, both), someTree(r, deep-1, both))
	}
	return node(pick(r, api.OpAnd, api.OpOr), someTree(r, deep-1, kind), someTree(r, deep-1, kind))
}

func someLeaf(r *rand.Rand, kind int) api.Node {
	where := pick(r, "a", "b", "c", "a.b", "b.c", "c.a.b")
	switch {
	case r.Intn(4) == 0:
		return path(where)
	case kind == api.KindBool:
		return literal(value.Bool(r.Intn(2) == 0))
	case kind == api.KindText:
		return literal(value.Text(pick(r, "", "a", "b")))
	case r.Intn(3) == 0:
		return api.Node{Op: api.OpCount, Text: where}
	case r.Intn(2) == 0:
		return api.Node{Op: api.OpNumber, Text: pick(r, "s", "t", "u"), Int: 1 + r.Intn(8)}
	}
	return literal(value.Int(pick(r, 0, 1, 2, 3, 1<<63-1)))
}

func TestP11_2Sketch(t *testing.T) {
	r := rand.New(rand.NewSource(11))
	met := map[string]int{}
	for i := range 60000 {
		n, c := someTree(r, 1+i%6, 1+r.Intn(3)), someCase(r)
		want := sketched(n, c)
		v, is := Eval(n, c)
		fits := false
		switch want := want.(type) {
		case nil:
			fits = !is && v == api.Value{}
			met["none"]++
		case *big.Int:
			fits = is && v == value.Int(int(want.Int64()))
			met["integer"]++
		case bool:
			fits = is && v == value.Bool(want)
			met["boolean"]++
		case string:
			fits = is && v == value.Text(want)
			met["text"]++
		}
		s, err := expr.Print(n)
		if !fits {
			t.Fatalf("Eval(%s) in %+v = %v, %t, want %v", s, c, v, is, want)
		}
		if err == api.OK && Holds(s, c) != (want == true) {
			t.Fatalf("Holds(%s) in %+v is not %v", s, c, want)
		}
	}
	if met["none"] < 10000 || met["integer"] < 5000 || met["boolean"] < 5000 || met["text"] < 1000 {
		t.Error("one-sided:", met)
	}
}

// spoilt are copies of a tree in each of which one part is without a value.
func spoilt(n, void api.Node) []api.Node {
	l := []api.Node{void}
	for i, kid := range n.Kids {
		for _, worse := range spoilt(kid, void) {
			kids := append([]api.Node(nil), n.Kids...)
			kids[i] = worse
			l = append(l, api.Node{Op: n.Op, Kids: kids})
		}
	}
	return l
}

func TestP11_3NoPartWithoutValue(t *testing.T) {
	r := rand.New(rand.NewSource(113))
	held := 0
	for held < 3000 {
		n, c := someTree(r, 5, api.KindBool), someCase(r)
		s, err := expr.Print(n)
		if err != api.OK || !Holds(s, c) {
			continue
		}
		held++
		text := pick(r, "x", "1 / 0", "x = x", "-true", "a.b.c.d", "9223372036854775807 + 1")
		void, _ := expr.Parse(text)
		for _, worse := range spoilt(n, void) {
			if v, is := Eval(worse, c); is || v != (api.Value{}) {
				t.Fatalf("%+v in %+v has the value %v", worse, c, v)
			}
			if s, err := expr.Print(worse); err == api.OK && Holds(s, c) {
				t.Fatalf("%s holds in %+v", s, c)
			}
		}
	}
}
