package expr

import (
	"math/rand"
	"reflect"
	"slices"
	"strconv"
	"strings"
	"testing"

	"dossier/api"
)

// sketch reads the grammar as it stands in the chapter: a span of tokens is a tree of a rule if it can be split so.
type sketch struct {
	tokens []string
	known  map[span]*api.Node
}

type span struct{ rule, from, to int }

const (
	ruleOr = iota
	ruleAnd
	ruleNot
	ruleComparison
	ruleSum
	ruleProduct
	ruleFactor
	rulePart
)

var between = [][]int{{19}, {18}, nil, {12, 13, 14, 15, 16, 17}, {10, 11}, {7, 8, 9}, nil}

// derive returns the tree of a span, nil if it is none of the rule.
func (k *sketch) derive(s span) *api.Node {
	if s.from >= s.to {
		return nil
	}
	n, is := k.known[s]
	if !is {
		n = k.split(s)
		k.known[s] = n
	}
	return n
}

func (k *sketch) split(s span) *api.Node {
	if s.rule == rulePart {
		return k.part(s)
	}
	if n := k.derive(span{s.rule + 1, s.from, s.to}); n != nil {
		return n
	}
	if first := k.tokens[s.from]; s.rule == ruleNot && first == "not" || s.rule == ruleFactor && first == "-" {
		if n := k.derive(span{s.rule, s.from + 1, s.to}); n != nil {
			n := tree(map[string]int{"not": 5, "-": 6}[first], *n)
			return &n
		}
	}
	left := s.rule
	if s.rule == ruleComparison {
		left++
	}
	for at := s.from + 1; at < s.to; at++ {
		for _, op := range between[s.rule] {
			if k.tokens[at] != marks[op] {
				continue
			}
			a, b := k.derive(span{left, s.from, at}), k.derive(span{s.rule + 1, at + 1, s.to})
			if a != nil && b != nil {
				n := tree(op, *a, *b)
				return &n
			}
		}
	}
	return nil
}

func (k *sketch) part(s span) *api.Node {
	l := k.tokens[s.from:s.to]
	text, last := l[0], l[len(l)-1]
	var n api.Node
	switch size := len(l); {
	case size == 1 && strings.HasPrefix(text, `"`):
		n.Op, n.Value = 1, api.Value{Kind: 3, Text: strings.Trim(text, `"`)}
	case size == 1 && text[0] >= '0' && text[0] <= '9':
		v, _ := strconv.Atoi(text)
		n.Op, n.Value = 1, api.Value{Kind: 1, Int: v}
	case size == 1 && (text == "true" || text == "false"):
		n.Op, n.Value = 1, api.Value{Kind: 2, Bool: text == "true"}
	case size > 2 && text == "(" && last == ")":
		return k.derive(span{ruleOr, s.from + 1, s.to - 1})
	case size > 3 && text == "count" && l[1] == "(" && last == ")" && dotted(l[2:size-1]):
		n.Op, n.Text = 3, strings.Join(l[2:size-1], "")
	case size == 6 && text == "number" && l[1] == "(" && dotted(l[2:3]) && l[3] == "," && last == ")" && slices.Index(statesNamed, l[4]) > 0:
		n.Op, n.Text, n.Int = 4, l[2], slices.Index(statesNamed, l[4])
	case dotted(l):
		n.Op, n.Text = 2, strings.Join(l, "")
	default:
		return nil
	}
	return &n
}

// dotted reports whether tokens are names with dots between them.
func dotted(l []string) bool {
	keywords := []string{"and", "or", "not", "true", "false", "count", "number"}
	for i, s := range l {
		if i%2 == 1 && s != "." || i%2 == 0 && (s[0] < 'a' || s[0] > 'z' || slices.Contains(keywords, s)) {
			return false
		}
	}
	return len(l)%2 == 1
}

func sketched(tokens []string) (api.Node, api.Errno) {
	k := &sketch{tokens, map[span]*api.Node{}}
	n := k.derive(span{ruleOr, 0, len(tokens)})
	if n == nil {
		return api.Node{}, api.ErrParse
	}
	if Depth(*n) > 24 {
		return api.Node{}, api.ErrFull
	}
	return *n, api.OK
}

func pick[T any](r *rand.Rand, l []T) T { return l[r.Intn(len(l))] }

var tokenKinds = []string{"a", "b", "active", "failed", "closed", "1", "20", `"s"`, `"or"`, `"-"`, "true", "false", "(", ")", ".", ",", "count", "number", "not", "-", "or", "and", "<", "<=", ">", ">=", "=", "!=", "+", "*", "/", "%"}

// grown are tokens of a rule.
func grown(r *rand.Rand, rule, room int) []string {
	if rule == rulePart {
		return grownPart(r, room)
	}
	if room <= 0 || r.Intn(3) > 0 {
		return grown(r, rule+1, room)
	}
	switch rule {
	case ruleNot:
		return append([]string{"not"}, grown(r, rule, room-1)...)
	case ruleFactor:
		return append([]string{"-"}, grown(r, rule, room-1)...)
	}
	left := rule
	if rule == ruleComparison {
		left++
	}
	l := grown(r, left, room/2)
	l = append(l, marks[pick(r, between[rule])])
	return append(l, grown(r, rule+1, room/2)...)
}

func grownPart(r *rand.Rand, room int) []string {
	dots := strings.Fields(pick(r, []string{"a", "b", "a . b", "active . a . b"}))
	switch r.Intn(7) {
	case 0:
		return append(append([]string{"count", "("}, dots...), ")")
	case 1:
		return []string{"number", "(", pick(r, []string{"a", "b", "active"}), ",", pick(r, statesNamed[1:]), ")"}
	case 2, 3:
		if room > 0 {
			return append(append([]string{"("}, grown(r, ruleOr, room-1)...), ")")
		}
	case 4:
		return []string{pick(r, []string{"0", "1", "20", `"s"`, `"or"`, `""`, "true", "false"})}
	}
	return dots
}

// spoilt are tokens with one of them left out, changed, added, or two exchanged.
func spoilt(r *rand.Rand, l []string) []string {
	l = slices.Clone(l)
	at := r.Intn(len(l))
	switch r.Intn(4) {
	case 0:
		return slices.Delete(l, at, at+1)
	case 1:
		return slices.Insert(l, at, pick(r, tokenKinds))
	case 2:
		l[at] = pick(r, tokenKinds)
	case 3:
		other := r.Intn(len(l))
		l[at], l[other] = l[other], l[at]
	}
	return l
}

// blanks joins tokens with blanks, which may be left out beside a sign.
func blanks(r *rand.Rand, l []string) string {
	s := ""
	for _, token := range l {
		if s == "" || strings.ContainsAny(token, "().,") || strings.HasSuffix(s, ")") || strings.HasSuffix(s, "(") {
			s += pick(r, []string{"", " ", "\n"})
		} else {
			s += pick(r, []string{" ", "\t", "  ", "\r\n"})
		}
		s += token
	}
	return s
}

func TestP9_1Sketch(t *testing.T) {
	r := rand.New(rand.NewSource(9))
	met := map[api.Errno]int{}
	for i := range 30000 {
		l := grown(r, ruleOr, i%30)
		for range i % 3 {
			if len(l) > 0 {
				l = spoilt(r, l)
			}
		}
		s := blanks(r, l)
		if len(s) > 400 || len(l) > 60 {
			continue
		}
		want, wantErr := sketched(l)
		n, err := Parse(s)
		if err != wantErr || !reflect.DeepEqual(n, want) {
			t.Fatalf("Parse(%q) = %s, error %d, want %s, error %d", s, form(n), err, form(want), wantErr)
		}
		met[err]++
	}
	if met[api.OK] < 8000 || met[api.ErrParse] < 8000 {
		t.Error("one-sided:", met)
	}
}

// Short rows of tokens, all that there are.
func TestP9_1EveryRow(t *testing.T) {
	few := []string{"a", "1", `"-"`, "true", "(", ")", ".", "not", "-", "or", "=", "*", "count"}
	var rows func(l []string, more int)
	rows = func(l []string, more int) {
		want, wantErr := sketched(l)
		s := strings.Join(l, " ")
		if n, err := Parse(s); err != wantErr || !reflect.DeepEqual(n, want) {
			t.Fatalf("Parse(%q) = %s, error %d, want %s, error %d", s, form(n), err, form(want), wantErr)
		}
		if more > 0 {
			for _, token := range few {
				rows(append(slices.Clone(l), token), more-1)
			}
		}
	}
	rows(nil, 4)
}

// random is a valid tree, deep at most.
func random(r *rand.Rand, deep int) api.Node {
	if deep > 1 && r.Intn(4) > 0 {
		op := 5 + r.Intn(15)
		if op < 7 {
			return tree(op, random(r, deep-1))
		}
		return tree(op, random(r, deep-1), random(r, deep-1))
	}
	switch r.Intn(6) {
	case 0:
		return whole(pick(r, []int{0, 1, 42, 1<<63 - 1}))
	case 1:
		return truth(r.Intn(2) == 0)
	case 2:
		return text(pick(r, []string{"", "or", "-", "(", `"`, `\`, `a"b\`, "\n\t ", "\u20ac"}))
	case 3:
		return count(pick(r, []string{"a", "b.c"}))
	case 4:
		return number(pick(r, []string{"a", "active"}), 1+r.Intn(8))
	}
	return path(pick(r, []string{"a", "b.c", "active.closed", "_"}))
}

func TestP9_4ParseOfPrint(t *testing.T) {
	r := rand.New(rand.NewSource(94))
	printed, full := 0, 0
	for i := range 60000 {
		n := random(r, 1+i%9)
		s, err := Print(n)
		if err == api.ErrFull && s == "" {
			full++
			continue
		}
		printed++
		if again, e := Parse(s); err != api.OK || e != api.OK || !reflect.DeepEqual(again, n) {
			t.Fatalf("Parse(%q) = %s, error %d, want %s", s, form(again), e, form(n))
		}
	}
	if printed < 40000 || full < 100 {
		t.Error("one-sided:", printed, full)
	}
	for i, n := range valid() {
		s, err := Print(n)
		again, e := Parse(s)
		if n.Kids != nil && len(n.Kids) == 0 {
			n.Kids = nil
		}
		if err == api.OK && (e != api.OK || !reflect.DeepEqual(again, n)) {
			t.Errorf("%d: Parse(%.100q) = %.100s, error %d", i, s, form(again), e)
		}
	}
}

func TestP9_4ParseOfPrintOfParse(t *testing.T) {
	r := rand.New(rand.NewSource(49))
	for i := range 30000 {
		s := blanks(r, grown(r, ruleOr, i%40))
		n, err := Parse(s)
		if err == api.ErrFull {
			continue
		}
		if err != api.OK || !Can(n) {
			t.Fatalf("Parse(%q) is not valid: %s, error %d", s, form(n), err)
		}
		printed, err := Print(n)
		if err == api.ErrFull && len(s) > 200 {
			continue
		}
		if again, e := Parse(printed); err != api.OK || e != api.OK || !reflect.DeepEqual(again, n) {
			t.Fatalf("Parse(%q) = %s, error %d, want %s", printed, form(again), e, form(n))
		}
	}
}

// Without any one pair of its parentheses, a text is another tree, or none.
func TestP9_2NoNeedlessParentheses(t *testing.T) {
	r := rand.New(rand.NewSource(92))
	pairs := 0
	for range 20000 {
		n := random(r, 5)
		s, err := Print(n)
		if err != api.OK || strings.Contains(s, `"`) {
			continue
		}
		for from := range len(s) {
			if s[from] != '(' || from > 0 && (s[from-1] == 't' || s[from-1] == 'r') {
				continue // a call's
			}
			pairs++
			to := closing(s, from)
			bare := s[:from] + " " + s[from+1:to] + " " + s[to+1:]
			if again, err := Parse(bare); err == api.OK && reflect.DeepEqual(again, n) {
				t.Fatalf("%q is %q", s, bare)
			}
		}
	}
	if pairs < 10000 {
		t.Error("few pairs:", pairs)
	}
}

// closing is where the parenthesis at an offset is closed.
func closing(s string, from int) int {
	open := 0
	for at := from; ; at++ {
		switch s[at] {
		case '(':
			open++
		case ')':
			open--
		}
		if open == 0 {
			return at
		}
	}
}
