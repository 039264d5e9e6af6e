package value

import (
	"bytes"
	"math"
	"math/big"
	"strings"
	"testing"

	"dossier/api"
	"dossier/wire"
)

const (
	none  = api.KindNone
	whole = api.KindInt
	truth = api.KindBool
	text  = api.KindText
)

// unknown are kinds and operators that there are not.
var unknown = []int{-1, 1 << 32, 1<<32 + 1, math.MinInt, math.MaxInt}

func integers() []int {
	l := []int{3037000499, 3037000500, -3037000500, -3037000499, 1 << 32, -1 << 32, 6148914691236517205, 1 << 62, -1 << 62}
	for i := -12; i <= 12; i++ {
		l = append(l, i)
	}
	for i := range 4 {
		l = append(l, math.MaxInt-i, math.MinInt+i)
		l = append(l, math.MaxInt/2-i, math.MinInt/2+i, math.MaxInt/3+i, math.MinInt/3-i)
	}
	return l
}

func texts() []string {
	return []string{"", "\t", "\n", " ", "\"", "\\", "A", "B", "a", "aa", "ab", "abc", "b", "z", "~", "\u00e9", "e\u0301", "\u07ff", "\u0800", "\ud7ff", "\ue000", "\ufffd", "\U00010000", "\U0010ffff", strings.Repeat("a", 255), strings.Repeat("a", 256), strings.Repeat("\u20ac", 85) + "a"}
}

func valid() []api.Value {
	l := []api.Value{{}, {Kind: api.KindBool}, {Kind: api.KindBool, Bool: true}}
	for _, n := range integers() {
		l = append(l, api.Value{Kind: api.KindInt, Int: n})
	}
	for _, s := range texts() {
		l = append(l, api.Value{Kind: api.KindText, Text: s})
	}
	return l
}

func badTexts() []string {
	return []string{"\x00", "a\x01", "\x1f", "\x08b", "\x0b", "\x0c", "\ufffe", "\uffff", "\xff", "\x80", "\xc0\x80", "a\xc3", "\xed\xa0\x80", "\xf4\x90\x80\x80", strings.Repeat("a", 257), strings.Repeat("\u20ac", 85) + "ab", strings.Repeat("\u20ac", 86), strings.Repeat("a", 255) + "\u00e9", strings.Repeat("a", 255) + "\x01", strings.Repeat("a", 70000)}
}

// invalid are hand-made values: fields of another kind, bad texts, kinds that there are not.
func invalid() []api.Value {
	l := []api.Value{
		{Int: 1}, {Int: -1}, {Bool: true}, {Text: "a"}, {Text: "\x00"}, {Int: math.MinInt, Bool: true, Text: "a"},
		{Kind: whole, Bool: true}, {Kind: whole, Text: "1"}, {Kind: whole, Int: 1, Bool: true}, {Kind: whole, Int: 1, Text: "1"},
		{Kind: truth, Int: 1}, {Kind: truth, Text: "true"}, {Kind: truth, Bool: true, Int: 1}, {Kind: truth, Bool: true, Text: "true"},
		{Kind: text, Int: 1}, {Kind: text, Bool: true}, {Kind: text, Text: "a", Int: 1}, {Kind: text, Text: "a", Bool: true},
	}
	for _, s := range badTexts() {
		l = append(l, api.Value{Kind: text, Text: s})
	}
	for _, kind := range append([]int{4, 5, 10}, unknown...) {
		l = append(l, api.Value{Kind: kind}, api.Value{Kind: kind, Int: 1}, api.Value{Kind: kind, Bool: true}, api.Value{Kind: kind, Text: "a"})
	}
	return l
}

// operators are all of them, and numbers of none.
func operators() []int {
	l := append([]int{}, unknown...)
	for op := -3; op <= 25; op++ {
		l = append(l, op)
	}
	return append(l, api.OpNot+1<<32, api.OpAdd+1<<32, api.OpAdd-1<<32, -api.OpAdd)
}

// clip keeps long texts out of messages.
func clip(v api.Value) api.Value {
	if len(v.Text) > 20 {
		v.Text = v.Text[:20] + ".."
	}
	return v
}

func TestP7_1Values(t *testing.T) {
	for _, n := range integers() {
		if v := Int(n); v != (api.Value{Kind: 1, Int: n}) {
			t.Errorf("Int(%d) = %v", n, v)
		}
	}
	for _, yes := range []bool{false, true} {
		if v := Bool(yes); v != (api.Value{Kind: 2, Bool: yes}) {
			t.Errorf("Bool(%t) = %v", yes, v)
		}
	}
	// A text that may not be a value is returned as it is, too.
	for _, s := range append(texts(), badTexts()...) {
		if v := Text(s); v != (api.Value{Kind: 3, Text: s}) {
			t.Errorf("Text(%.20q) = %v", s, clip(v))
		}
	}
}

func TestP7_1Can(t *testing.T) {
	for _, v := range valid() {
		if !Can(v) {
			t.Errorf("%v is valid", clip(v))
		}
	}
	for _, v := range invalid() {
		if Can(v) {
			t.Errorf("%v is not valid", clip(v))
		}
	}
}

func TestP7_1CanFields(t *testing.T) {
	for kind := -2; kind <= 6; kind++ {
		for set := range 8 {
			v := api.Value{Kind: kind}
			if set&1 != 0 {
				v.Int = 5
			}
			if set&2 != 0 {
				v.Bool = true
			}
			if set&4 != 0 {
				v.Text = "a"
			}
			own := map[int]int{none: 0, whole: 1, truth: 2, text: 4}
			bit, known := own[kind]
			if want := known && set&^bit == 0; Can(v) != want {
				t.Errorf("Can(%v) = %t", v, !want)
			}
		}
	}
}

func TestP7_1CanCharacters(t *testing.T) {
	for r := 0; r <= 0x10ffff; r++ {
		if r >= 0xd800 && r <= 0xdfff {
			continue
		}
		want := r == 9 || r == 0xa || r == 0xd || r >= 0x20 && r <= 0xd7ff || r >= 0xe000 && r <= 0xfffd || r >= 0x10000
		if v := Text("x" + string(rune(r)) + "y"); Can(v) != want {
			t.Fatalf("Can of a text with %x = %t", r, !want)
		}
	}
}

func TestP7_1Same(t *testing.T) {
	l := append(valid(), invalid()...)
	for i, a := range l {
		for k, b := range l {
			equal := a.Kind == b.Kind && a.Int == b.Int && a.Bool == b.Bool && a.Text == b.Text
			if Same(a, b) != equal || i == k && !equal {
				t.Errorf("Same(%v, %v) = %t", clip(a), clip(b), !equal)
			}
		}
	}
}

// results are the kinds of an operator's operands, and of its result.
var results = map[int][][3]int{
	api.OpNot:   {{truth, none, truth}},
	api.OpNeg:   {{whole, none, whole}},
	api.OpMul:   {{whole, whole, whole}},
	api.OpDiv:   {{whole, whole, whole}},
	api.OpMod:   {{whole, whole, whole}},
	api.OpAdd:   {{whole, whole, whole}},
	api.OpSub:   {{whole, whole, whole}},
	api.OpLess:  {{whole, whole, truth}, {text, text, truth}},
	api.OpMost:  {{whole, whole, truth}, {text, text, truth}},
	api.OpMore:  {{whole, whole, truth}, {text, text, truth}},
	api.OpLeast: {{whole, whole, truth}, {text, text, truth}},
	api.OpSame:  {{whole, whole, truth}, {truth, truth, truth}, {text, text, truth}},
	api.OpOther: {{whole, whole, truth}, {truth, truth, truth}, {text, text, truth}},
	api.OpAnd:   {{truth, truth, truth}},
	api.OpOr:    {{truth, truth, truth}},
}

func resultKind(op, a, b int) (int, bool) {
	for _, row := range results[op] {
		if row[0] == a && row[1] == b {
			return row[2], true
		}
	}
	return none, false
}

func TestP7_2Kind(t *testing.T) {
	kinds := append([]int{-2, 0, 1, 2, 3, 4, 5, 6}, unknown...)
	for _, op := range operators() {
		for _, a := range kinds {
			for _, b := range kinds {
				want, fits := resultKind(op, a, b)
				if kind, ok := Kind(op, a, b); kind != want || ok != fits {
					t.Errorf("Kind(%d, %d, %d) = %d, %t", op, a, b, kind, ok)
				}
			}
		}
	}
}

// calculated is the result of an operator on integers, nil if it has none.
func calculated(op int, a, b *big.Int) *big.Int {
	n := new(big.Int)
	switch op {
	case api.OpNeg:
		n.Neg(a)
	case api.OpMul:
		n.Mul(a, b)
	case api.OpAdd:
		n.Add(a, b)
	case api.OpSub:
		n.Sub(a, b)
	case api.OpDiv, api.OpMod:
		if b.Sign() == 0 {
			return nil
		}
		quotient, remainder := new(big.Int).QuoRem(a, b, n)
		if op == api.OpDiv {
			return quotient
		}
		return remainder
	}
	return n
}

// done is the result of an operator on valid values of kinds that it applies to.
func done(op int, a, b api.Value) (api.Value, bool) {
	kind, fits := resultKind(op, a.Kind, b.Kind)
	if !fits {
		return api.Value{}, false
	}
	if kind == whole {
		n := calculated(op, big.NewInt(int64(a.Int)), big.NewInt(int64(b.Int)))
		if n == nil || !n.IsInt64() {
			return api.Value{}, false
		}
		return api.Value{Kind: whole, Int: int(n.Int64())}, true
	}
	less, same := a.Int < b.Int, a == b
	if a.Kind == text {
		less = bytes.Compare([]byte(a.Text), []byte(b.Text)) < 0
	}
	yes := map[int]bool{
		api.OpNot: !a.Bool, api.OpAnd: a.Bool && b.Bool, api.OpOr: a.Bool || b.Bool,
		api.OpLess: less, api.OpMost: less || same, api.OpMore: !less && !same, api.OpLeast: !less,
		api.OpSame: same, api.OpOther: !same,
	}
	return api.Value{Kind: truth, Bool: yes[op]}, true
}

func TestP7_2DoValid(t *testing.T) {
	for _, op := range operators() {
		for _, a := range valid() {
			for _, b := range valid() {
				want, fits := done(op, a, b)
				if v, ok := Do(op, a, b); v != want || ok != fits {
					t.Errorf("Do(%d, %v, %v) = %v, %t, want %v, %t", op, clip(a), clip(b), clip(v), ok, clip(want), fits)
				}
			}
		}
	}
}

func TestP7_2DoInvalid(t *testing.T) {
	for _, op := range operators() {
		for _, bad := range invalid() {
			for _, other := range append(valid(), invalid()...) {
				if v, ok := Do(op, bad, other); ok || v != (api.Value{}) {
					t.Errorf("Do(%d, %v, %v) = %v, %t", op, clip(bad), clip(other), clip(v), ok)
				}
				if v, ok := Do(op, other, bad); ok || v != (api.Value{}) {
					t.Errorf("Do(%d, %v, %v) = %v, %t", op, clip(other), clip(bad), clip(v), ok)
				}
			}
		}
	}
}

func TestP7_2Integers(t *testing.T) {
	for _, x := range []struct{ op, a, b, want int }{
		{api.OpDiv, -7, 2, -3},
		{api.OpMod, -7, 2, -1},
		{api.OpDiv, 7, -2, -3},
		{api.OpMod, 7, -2, 1},
		{api.OpDiv, -7, -2, 3},
		{api.OpMod, -7, -2, -1},
		{api.OpMod, math.MinInt, -1, 0},
		{api.OpDiv, math.MinInt, 1, math.MinInt},
		{api.OpMul, math.MinInt, 1, math.MinInt},
		{api.OpMul, 1, math.MinInt, math.MinInt},
		{api.OpMul, -1 << 32, 1 << 31, math.MinInt},
		{api.OpMul, math.MaxInt, -1, -math.MaxInt},
		{api.OpMul, 0, math.MinInt, 0},
		{api.OpAdd, math.MaxInt - 1, 1, math.MaxInt},
		{api.OpAdd, math.MinInt, math.MaxInt, -1},
		{api.OpSub, -1, math.MinInt, math.MaxInt},
		{api.OpSub, -1, math.MaxInt, math.MinInt},
	} {
		if v, ok := Do(x.op, Int(x.a), Int(x.b)); !ok || v != Int(x.want) {
			t.Errorf("Do(%d, %d, %d) = %v, %t", x.op, x.a, x.b, v, ok)
		}
	}
	if v, ok := Do(api.OpNeg, Int(math.MaxInt), api.Value{}); !ok || v != Int(-math.MaxInt) {
		t.Error("the negative of the greatest integer", v, ok)
	}
}

func TestP7_2NoInteger(t *testing.T) {
	for _, x := range []struct{ op, a, b int }{
		{api.OpDiv, 1, 0},
		{api.OpMod, 1, 0},
		{api.OpDiv, 0, 0},
		{api.OpMod, 0, 0},
		{api.OpDiv, math.MinInt, -1},
		{api.OpMul, math.MinInt, -1},
		{api.OpMul, -1, math.MinInt},
		{api.OpMul, 1 << 32, 1 << 32},
		{api.OpMul, 1 << 32, 1 << 31},
		{api.OpMul, math.MaxInt, 2},
		{api.OpAdd, math.MaxInt, 1},
		{api.OpAdd, math.MinInt, -1},
		{api.OpAdd, math.MinInt, math.MinInt},
		{api.OpSub, 0, math.MinInt},
		{api.OpSub, math.MinInt, 1},
		{api.OpSub, math.MaxInt, -1},
	} {
		if v, ok := Do(x.op, Int(x.a), Int(x.b)); ok || v != (api.Value{}) {
			t.Errorf("Do(%d, %d, %d) = %v, %t", x.op, x.a, x.b, v, ok)
		}
	}
	if v, ok := Do(api.OpNeg, Int(math.MinInt), api.Value{}); ok || v != (api.Value{}) {
		t.Error("the negative of the least integer", v, ok)
	}
}

func TestP7_2TextsByteByByte(t *testing.T) {
	rising := []string{"", "\n", " ", "A", "Z", "a", "a ", "aa", "b", "\u00e9", "\ue000", "\ufffd", "\U00010000"}
	for i, a := range rising {
		for k, b := range rising {
			for op, want := range map[int]bool{api.OpLess: i < k, api.OpMost: i <= k, api.OpMore: i > k, api.OpLeast: i >= k, api.OpSame: i == k, api.OpOther: i != k} {
				if v, ok := Do(op, Text(a), Text(b)); !ok || v != Bool(want) {
					t.Errorf("Do(%d, %q, %q) = %v, %t", op, a, b, v, ok)
				}
			}
		}
	}
}

func TestP7_3Write(t *testing.T) {
	for _, x := range []struct {
		v    api.Value
		want string
	}{
		{api.Value{}, "\x00"},
		{Int(0), "\x02\x00"},
		{Int(-1), "\x02\x01"},
		{Int(64), "\x02\x80\x01"},
		{Int(math.MinInt), "\x02\xff\xff\xff\xff\xff\xff\xff\xff\xff\x01"},
		{Bool(false), "\x04\x00"},
		{Bool(true), "\x04\x01"},
		{Text(""), "\x06\x00"},
		{Text("a\"\u00e9"), "\x06\x08a\"\xc3\xa9"},
		{Text(strings.Repeat("a", 256)), "\x06\x80\x04" + strings.Repeat("a", 256)},
		// Of a hand-made value, the field of its kind is written, whatever the others are.
		{Text("\xff\x00"), "\x06\x04\xff\x00"},
		{api.Value{Int: 5, Bool: true, Text: "a"}, "\x00"},
		{api.Value{Kind: whole, Int: 5, Bool: true, Text: "a"}, "\x02\x0a"},
		{api.Value{Kind: truth, Int: 5, Bool: true, Text: "a"}, "\x04\x01"},
		{api.Value{Kind: text, Int: 5, Bool: true, Text: "a"}, "\x06\x02a"},
		{api.Value{Kind: 4, Int: 5, Bool: true, Text: "a"}, "\x08"},
		{api.Value{Kind: -1, Int: 5, Bool: true, Text: "a"}, "\x01"},
		{api.Value{Kind: math.MinInt}, "\xff\xff\xff\xff\xff\xff\xff\xff\xff\x01"},
	} {
		for _, b := range []string{"", "\x07", "before"} {
			if got := Write([]byte(b), x.v); string(got) != b+x.want {
				t.Errorf("Write(%q, %v) = %q", b, clip(x.v), got)
			}
		}
		if got := Write(nil, x.v); string(got) != x.want {
			t.Errorf("Write(nil, %v) = %q", clip(x.v), got)
		}
	}
}

func TestP7_3WriteIsReadAgain(t *testing.T) {
	for _, v := range valid() {
		r := wire.Open(Write(nil, v))
		got := api.Value{Kind: r.Int(none, text)}
		switch got.Kind {
		case whole:
			got.Int = r.Int(math.MinInt, math.MaxInt)
		case truth:
			got.Bool = r.Flag()
		case text:
			got.Text = r.Text(api.MaxValue)
		}
		if got != v || r.End() != api.OK {
			t.Errorf("%v is read as %v, error %d", clip(v), clip(got), r.End())
		}
	}
}

func TestP7_3WriteMemory(t *testing.T) {
	for _, v := range append(valid(), api.Value{Kind: 9}) {
		room := []byte("ab..............")
		first := Write(room[:2], v)
		if string(room) != "ab.............." {
			t.Fatalf("%v: the spare capacity was written to", clip(v))
		}
		second := Write(room[:2], v)
		for i := range first {
			first[i]++
		}
		_ = append(first, 1)
		if string(room) != "ab.............." || !bytes.Equal(second, Write([]byte("ab"), v)) {
			t.Fatalf("%v: results share memory", clip(v))
		}
	}
}

func TestP7_3Print(t *testing.T) {
	for _, x := range []struct {
		v    api.Value
		want string
	}{
		{Int(0), "0"},
		{Int(-12), "-12"},
		{Int(math.MaxInt), "9223372036854775807"},
		{Int(math.MinInt), "-9223372036854775808"},
		{Bool(true), "true"},
		{Bool(false), "false"},
		{Text(""), `""`},
		{Text("true"), `"true"`},
		{Text("a b"), `"a b"`},
		{Text(`"`), `"\""`},
		{Text(`\`), `"\\"`},
		{Text(`a\"b"\`), `"a\\\"b\"\\"`},
		{Text("\t\r\n'\u00e9\U0001f600"), "\"\t\r\n'\u00e9\U0001f600\""},
		{Text("\xff\"\x00\xc3"), "\"\xff\\\"\x00\xc3\""},
		{Text(strings.Repeat(`\`, 300)), `"` + strings.Repeat(`\`, 600) + `"`},
		{api.Value{}, ""},
		{api.Value{Int: 5, Bool: true, Text: "a"}, ""},
		{api.Value{Kind: 4, Int: 5, Bool: true, Text: "a"}, ""},
		{api.Value{Kind: -1, Int: 5, Bool: true, Text: "a"}, ""},
		{api.Value{Kind: 1<<32 + 1, Int: 5}, ""},
		{api.Value{Kind: whole, Int: 5, Bool: true, Text: "a"}, "5"},
		{api.Value{Kind: truth, Int: 5, Text: "a"}, "false"},
		{api.Value{Kind: text, Int: 5, Bool: true, Text: "a"}, `"a"`},
	} {
		if got := Print(x.v); got != x.want {
			t.Errorf("Print(%v) = %.40q, want %.40q", clip(x.v), got, x.want)
		}
	}
}

func TestP7_4ResultsAreValid(t *testing.T) {
	l := append(valid(), invalid()...)
	done := 0
	for _, op := range operators() {
		for _, a := range l {
			for _, b := range l {
				v, ok := Do(op, a, b)
				if !ok {
					continue
				}
				done++
				if kind, fits := Kind(op, a.Kind, b.Kind); !fits || v.Kind != kind || v.Kind == none || !Can(v) {
					t.Errorf("Do(%d, %v, %v) = %v", op, clip(a), clip(b), clip(v))
				}
			}
		}
	}
	if done < 1000 {
		t.Error("few results:", done)
	}
}

// holds is 1 if an operator holds, 0 if it does not.
func holds(t *testing.T, op int, a, b api.Value) int {
	v, ok := Do(op, a, b)
	if !ok || v.Kind != truth {
		t.Fatalf("Do(%d, %v, %v) = %v, %t", op, clip(a), clip(b), clip(v), ok)
	}
	if v.Bool {
		return 1
	}
	return 0
}

func TestP7_5OneOfThree(t *testing.T) {
	for _, a := range valid() {
		for _, b := range valid() {
			if a.Kind != b.Kind || a.Kind != whole && a.Kind != text {
				continue
			}
			less, same, more := holds(t, api.OpLess, a, b), holds(t, api.OpSame, a, b), holds(t, api.OpMore, a, b)
			if less+same+more != 1 {
				t.Errorf("%v and %v: < %d, = %d, > %d", clip(a), clip(b), less, same, more)
			}
			if holds(t, api.OpMost, a, b) != less+same || holds(t, api.OpLeast, a, b) != more+same || holds(t, api.OpOther, a, b) != less+more {
				t.Errorf("%v and %v: <=, >=, !=", clip(a), clip(b))
			}
			if holds(t, api.OpMore, b, a) != less {
				t.Errorf("%v and %v: the other way round", clip(a), clip(b))
			}
		}
	}
}
