package expr

import (
	"math"
	"reflect"
	"strings"
	"testing"

	"dossier/api"
)

func wantTree(t *testing.T, s string, want api.Node) {
	t.Helper()
	if n, err := Parse(s); err != api.OK || !reflect.DeepEqual(n, want) {
		t.Errorf("Parse(%.100q) = %.200s, error %d, want %.200s", s, form(n), err, form(want))
	}
}

func wantForm(t *testing.T, s, want string) {
	t.Helper()
	if n, err := Parse(s); err != api.OK || form(n) != want {
		t.Errorf("Parse(%.100q) = %.200s, error %d, want %.200s", s, form(n), err, want)
	}
}

func wantError(t *testing.T, s string, want api.Errno) {
	t.Helper()
	if n, err := Parse(s); err != want || !reflect.DeepEqual(n, api.Node{}) {
		t.Errorf("Parse(%.100q) = %.200s, error %d, want error %d", s, form(n), err, want)
	}
}

func TestP9_1Example(t *testing.T) {
	wantTree(t, "a.b+1 > 2 and not c", tree(18, tree(14, tree(10, path("a.b"), whole(1)), whole(2)), tree(5, path("c"))))
}

func TestP9_1Lexer(t *testing.T) {
	for _, s := range []string{"a ! b", "\"open", "007", "#", "9223372036854775808", "-9223372036854775808", "\"\\n\"", "\u00e9", "a b c !", ") \x00", "\"" + strings.Repeat("a", 257) + "\""} {
		wantError(t, s, api.ErrWord)
	}
	long := strings.Repeat(" ", 399) + "a"
	wantTree(t, long, path("a"))
	wantError(t, " "+long, api.ErrFull)
	wantError(t, strings.Repeat("!", 401), api.ErrFull)
	wantError(t, strings.Repeat("!", 400), api.ErrWord)
	wantError(t, strings.Repeat("a b ", 101), api.ErrFull)
	wantError(t, strings.Repeat("(", 1<<20), api.ErrFull)
}

func TestP9_1Leaves(t *testing.T) {
	wantTree(t, "0", whole(0))
	wantTree(t, "9223372036854775807", whole(math.MaxInt))
	wantTree(t, "true", truth(true))
	wantTree(t, "false", truth(false))
	wantTree(t, `""`, text(""))
	wantTree(t, `"\"or\\"`, text(`"or\`))
	wantTree(t, "a", path("a"))
	wantTree(t, "a.b_1.C", path("a.b_1.C"))
	wantTree(t, " a\t. b\n.c\r", path("a.b.c"))
	wantTree(t, "count(a)", count("a"))
	wantTree(t, "count ( a . b )", count("a.b"))
	for state := 1; state <= 8; state++ {
		wantTree(t, "number(t,"+statesNamed[state]+")", number("t", state))
	}
	wantTree(t, "number ( t\n, active )", number("t", 4))
	wantTree(t, "number(active, active)", number("active", 4))
	wantTree(t, "available.closed", path("available.closed"))
	wantTree(t, "True", path("True"))
	wantTree(t, "NOT.Count.numbers.oR", path("NOT.Count.numbers.oR"))
	long := strings.Repeat("a.", 199) + "ab"
	wantTree(t, long, path(long))
}

// Literals that denote operators, names or punctuation are literals all the same.
func TestP9_1LiteralsAreNoMarks(t *testing.T) {
	for _, s := range []string{"or", "and", "not", "-", "+", "<=", "(", ")", ".", ",", "count", "number", "true", "false", "a", "1", ""} {
		lit := `"` + s + `"`
		wantTree(t, lit, text(s))
		wantTree(t, "("+lit+")", text(s))
		wantTree(t, lit+"="+lit, tree(16, text(s), text(s)))
		for _, wrong := range []string{"a " + lit + " b", lit + " a", "a " + lit, "(a" + lit, "count" + lit + "a)", "count(" + lit + ")", "number(" + lit + ", active)", "number(a" + lit + "active)", "a." + lit, "1 " + lit + " 1"} {
			wantError(t, wrong, api.ErrParse)
		}
	}
	wantError(t, `number(a, "active")`, api.ErrParse)
}

func TestP9_1Operators(t *testing.T) {
	for op := 7; op <= 19; op++ {
		wantTree(t, "a "+marks[op]+" b", tree(op, path("a"), path("b")))
		wantTree(t, "(a)"+marks[op]+"(1)", tree(op, path("a"), whole(1)))
	}
	wantTree(t, "not a", tree(5, path("a")))
	wantTree(t, "-a", tree(6, path("a")))
	wantTree(t, "-1", tree(6, whole(1)))
	wantTree(t, "-9223372036854775807", tree(6, whole(math.MaxInt)))
}

func TestP9_1Precedence(t *testing.T) {
	for s, want := range map[string]string{
		"a or b and c":                "(or a (and b c))",
		"a and b or c":                "(or (and a b) c)",
		"(a or b) and c":              "(and (or a b) c)",
		"not a or b":                  "(or (not a) b)",
		"not a and b":                 "(and (not a) b)",
		"a and not b and c":           "(and (and a (not b)) c)",
		"a or not b or not not c":     "(or (or a (not b)) (not (not c)))",
		"not a = b":                   "(not (= a b))",
		"not a < b and c":             "(and (not (< a b)) c)",
		"not (a and b)":               "(not (and a b))",
		"(not a) = b":                 "(= (not a) b)",
		"a = (not b)":                 "(= a (not b))",
		"-(not a)":                    "(neg (not a))",
		"a + b < c - d":               "(< (+ a b) (- c d))",
		"a < b + c":                   "(< a (+ b c))",
		"a + b * c":                   "(+ a (* b c))",
		"a * b + c":                   "(+ (* a b) c)",
		"(a + b) * c":                 "(* (+ a b) c)",
		"a * (b + c)":                 "(* a (+ b c))",
		"-a * b":                      "(* (neg a) b)",
		"-(a * b)":                    "(neg (* a b))",
		"a * -b":                      "(* a (neg b))",
		"a - -b":                      "(- a (neg b))",
		"a--b":                        "(- a (neg b))",
		"a---b":                       "(- a (neg (neg b)))",
		"--a":                         "(neg (neg a))",
		"-a - -b":                     "(- (neg a) (neg b))",
		"-a.b":                        "(neg a.b)",
		"-count(a) % 2":               "(% (neg #a) 2)",
		"a - b - c":                   "(- (- a b) c)",
		"a - (b - c)":                 "(- a (- b c))",
		"a + b - c + d":               "(+ (- (+ a b) c) d)",
		"a / b * c % d":               "(% (* (/ a b) c) d)",
		"a or b or c":                 "(or (or a b) c)",
		"a or (b or c)":               "(or a (or b c))",
		"a and b and c":               "(and (and a b) c)",
		"(a < b) = (c >= d)":          "(= (< a b) (>= c d))",
		"(a = b) != c":                "(!= (= a b) c)",
		"((((a))))":                   "a",
		"((a)) + (((b)))":             "(+ a b)",
		"1+2*3-4/5%6<=7 and true":     "(and (<= (- (+ 1 (* 2 3)) (% (/ 4 5) 6)) 7) true)",
		"count(a)+number(b,failed)":   "(+ #a #b:5)",
		"not true=false or \"\"<\"\"": "(or (not (= true false)) (< \"\" \"\"))",
	} {
		wantForm(t, s, want)
	}
}

func TestP9_1Wrong(t *testing.T) {
	for _, s := range []string{
		"", " ", "\t\n", "()", "(", ")", "(a", "a)", "((a)", "(a))", "a b", "1 2", "a 1", "1 a", "true false", "\"a\" \"b\"",
		"a +", "+ a", "* a", "a + * b", "a or", "or a", "or", "and", "not", "a not b", "a not", "not not", "a and or b", "a or and b", "-", "--", "a -", "a - - ",
		"a = not b", "a + not b", "a * not b", "-not a", "- not a", "a < b < c", "a = b = c", "a = b != c", "a < b >= c", "1 < 2 < 3", "a < b + c < d", "not a = not b",
		"a < = b", "a > = b", "a == b", "a <> b", "a =< b", "a !== b", "a < b = c",
		".", ".a", "a.", "a..b", "a . . b", "a.1", "1.a", "1.0", "a.(b)", "(a).b", "a.true", "true.a", "a.not", "a.count(b)", "count.a", "a.count", "number.a", "a.number", "a.or.b", "a.and", "false.false",
		"count", "count()", "count(", "count(a", "count a", "count(1)", "count((a))", "count(a.)", "count(a, b)", "count(a b)", "count(count(a))", "count(a + b)", "count(true)", "count(a))", "count(not)", "count(a,)",
		"number", "number()", "number(", "number(a)", "number(a,)", "number(a, )", "number(, active)", "number(a active)", "number(a, active", "number(a, active, b)", "number(a, active))", "number(a.b, active)", "number(1, active)", "number(a, 4)", "number(a, closed)", "number(a, Active)", "number(a, true)", "number(true, active)", "number(count, active)", "number(a, b)", "number(a, active.b)", "number((a), active)", "number(a, (active))", "number(a. , active)",
		"a,b", ",", "a, ", "(a, b)", "a(b)", "a()", "f(a, b)", "1(2)", "(a)(b)", "(a)b", "a(", "true()", "=", "< 1", "a %", "% a", "a and", "and a", "5 5",
	} {
		wantError(t, s, api.ErrParse)
	}
}

func TestP9_1Depth(t *testing.T) {
	for _, x := range []struct{ first, again, last string }{
		{"", "not ", "a"}, {"", "-", "a"}, {"a", " or a", ""}, {"a", " and a", ""}, {"a", "+a", ""}, {"1", "-1", ""}, {"a", "*a", ""}, {"a", "/a", ""}, {"a", "%a", ""},
	} {
		text := func(many int) string { return x.first + strings.Repeat(x.again, many) + x.last }
		n, err := Parse(text(23))
		if err != api.OK || Depth(n) != 24 {
			t.Errorf("%q: depth %d, error %d", text(23), Depth(n), err)
		}
		for _, many := range []int{24, 25, 40, 60} {
			wantError(t, text(many), api.ErrFull)
			wantError(t, "("+text(many)+") * 1", api.ErrFull)
			// What is no expression comes first, wherever it is.
			wantError(t, text(many)+" b", api.ErrParse)
			wantError(t, "("+text(many), api.ErrParse)
			wantError(t, text(many)+" or", api.ErrParse)
		}
	}
	wantError(t, "not not "+strings.Repeat("-", 391)+"a", api.ErrFull)
	wantError(t, strings.Repeat("-", 400), api.ErrParse)
	wantTree(t, strings.Repeat("-(", 23)+"a"+strings.Repeat(")", 23), times(6, 23, path("a")))
	wantError(t, strings.Repeat("-(", 24)+"a"+strings.Repeat(")", 24), api.ErrFull)
	wantError(t, strings.Repeat("a+(", 24)+"a"+strings.Repeat(")", 24), api.ErrFull)
}

// Parentheses are not in the tree, and so no part of its depth.
func TestP9_1Parentheses(t *testing.T) {
	for _, many := range []int{1, 23, 24, 25, 100, 199} {
		wantTree(t, strings.Repeat("(", many)+"a"+strings.Repeat(")", many), path("a"))
		wantError(t, strings.Repeat("(", many)+"a"+strings.Repeat(")", many-1), api.ErrParse)
		wantError(t, strings.Repeat("(", many-1)+"a"+strings.Repeat(")", many), api.ErrParse)
	}
	wantError(t, strings.Repeat("(", 400), api.ErrParse)
	wantForm(t, strings.Repeat("(", 90)+"a+b"+strings.Repeat(")", 90)+"*"+strings.Repeat("(", 90)+"c-d"+strings.Repeat(")", 90), "(* (+ a b) (- c d))")
}

func TestP9_1Memory(t *testing.T) {
	s := "not a and 1 + 2 = count(b) or -c"
	first, _ := Parse(s)
	second, _ := Parse(s)
	scribble(first)
	if third, err := Parse(s); err != api.OK || !reflect.DeepEqual(second, third) {
		t.Error("two results share memory:", form(second), form(third))
	}
}

// scribble writes on each list of a tree, and its spare capacity, and sees to it that no other list of the tree changes.
func scribble(n api.Node) {
	for i := range n.Kids {
		scribble(n.Kids[i])
		n.Kids[i] = path("x")
	}
	_ = append(n.Kids, path("y"))
}

func TestP9_1ListsApart(t *testing.T) {
	n, _ := Parse("(a + b) * (c - d)")
	_ = append(n.Kids[0].Kids, path("x"), path("y"))
	_ = append(n.Kids, path("z"))
	n.Kids[0].Kids[0] = path("w")
	if got := form(n); got != "(* (+ w b) (- c d))" {
		t.Error("two lists of a result share memory:", got)
	}
}
