package lexer

import (
	"math"
	"math/rand"
	"reflect"
	"regexp"
	"strconv"
	"strings"
	"testing"
	"unicode/utf8"

	"dossier/api"
)

func name(s string) api.Word { return api.Word{Kind: api.WordName, Text: s} }
func whole(n int) api.Word   { return api.Word{Kind: api.WordInt, Int: n} }
func text(s string) api.Word { return api.Word{Kind: api.WordText, Text: s} }
func mark(s string) api.Word { return api.Word{Kind: api.WordSign, Text: s} }

// ended are words with the end behind them.
func ended(l ...api.Word) []api.Word { return append(l, api.Word{}) }

func wantWords(t *testing.T, s string, want []api.Word) {
	t.Helper()
	if l, at, err := Words(s); !reflect.DeepEqual(l, want) || at != 0 || err != api.OK {
		t.Errorf("Words(%.60q) = %.200v, %d, error %d, want %.200v", s, l, at, err, want)
	}
}

func wantError(t *testing.T, s string, at int, err api.Errno) {
	t.Helper()
	if l, got, e := Words(s); len(l) != 0 || got != at || e != err {
		t.Errorf("Words(%.60q) = %.200v, %d, error %d, want error %d at %d", s, l, got, e, err, at)
	}
}

func TestP8_1Example(t *testing.T) {
	wantWords(t, "a<=1", ended(name("a"), mark("<="), whole(1)))
}

func TestP8_1Length(t *testing.T) {
	long := strings.Repeat("n", 400)
	wantWords(t, long, ended(name(long)))
	wantWords(t, strings.Repeat(" ", 400), ended())
	many := strings.Repeat("(", 400)
	if l, at, err := Words(many); len(l) != 401 || at != 0 || err != api.OK {
		t.Error(len(l), at, err)
	}
	wantError(t, many[1:]+"!", 399, api.ErrWord)
	wantError(t, long+"n", 0, api.ErrFull)
	wantError(t, strings.Repeat(" ", 401), 0, api.ErrFull)
	// Too long comes ahead of whatever is wrong.
	wantError(t, "a!"+long, 0, api.ErrFull)
	wantError(t, strings.Repeat("\xff", 1<<20), 0, api.ErrFull)
	wantError(t, strings.Repeat("\xff", 400), 0, api.ErrWord)
}

func TestP8_1Blanks(t *testing.T) {
	wantWords(t, "", ended())
	wantWords(t, " \t\n\r", ended())
	wantWords(t, "\t a\r\nb \n1\t", ended(name("a"), name("b"), whole(1)))
	for c := range 256 {
		s := "a" + string([]byte{byte(c)}) + "b"
		l, at, err := Words(s)
		if c == ' ' || c == '\t' || c == '\n' || c == '\r' {
			wantWords(t, s, ended(name("a"), name("b")))
		} else if reflect.DeepEqual(l, ended(name("a"), name("b"))) {
			t.Errorf("the byte %x is no blank: %v, %d, error %d", c, l, at, err)
		}
	}
	for _, s := range []string{"\v", "\f", "\x00", "\u0085", "\u00a0", "\u2028", "\u3000", "\ufeff"} {
		wantError(t, "a"+s+"b", 1, api.ErrWord)
	}
}

func TestP8_1Names(t *testing.T) {
	for _, s := range []string{"a", "z", "A", "Z", "_", "__", "_0", "a0_Z9", "and", "or", "not", "true", "count", "nAmE", strings.Repeat("x", 65)} {
		wantWords(t, s, ended(name(s)))
	}
	wantWords(t, "a.b", ended(name("a"), mark("."), name("b")))
	wantWords(t, "a-b", ended(name("a"), mark("-"), name("b")))
	wantWords(t, "a 1", ended(name("a"), whole(1)))
	for _, s := range []string{"\u00e9", "\u00b5", "\uff21", "\u0661", "@", "[", "`", "{", "^"} {
		wantError(t, s, 0, api.ErrWord)
		wantError(t, "ab"+s, 2, api.ErrWord)
	}
}

func TestP8_1NameAlone(t *testing.T) {
	for _, s := range []string{"a", "Z", "_", "a1", "_0", "nOt", strings.Repeat("x", 400), strings.Repeat("x", 100000)} {
		if !Name(s) {
			t.Errorf("%.60q is a name", s)
		}
	}
	for c := range 256 {
		for _, s := range []string{string([]byte{byte(c)}), "a" + string([]byte{byte(c)}), string([]byte{byte(c)}) + "a"} {
			l, _, err := Words(s)
			want := err == api.OK && len(l) == 2 && l[0] == name(s)
			if Name(s) != want {
				t.Errorf("Name(%q) = %t", s, !want)
			}
		}
	}
	for _, s := range []string{"", " ", "a ", "a b", "a.b", "1", "1a", "a\u00e9", "\"a\"", "a=", strings.Repeat("x", 1000) + "-"} {
		if Name(s) {
			t.Errorf("%.60q is no name", s)
		}
	}
}

func TestP8_1EveryFirstByte(t *testing.T) {
	alone := "().,+-*/%<>="
	for c := range 256 {
		s := string([]byte{byte(c)})
		switch {
		case strings.Contains(alone, s):
			wantWords(t, s, ended(mark(s)))
		case c >= 'A' && c <= 'Z' || c >= 'a' && c <= 'z' || c == '_':
			wantWords(t, s, ended(name(s)))
			wantWords(t, "x"+s, ended(name("x"+s)))
		case c >= '0' && c <= '9':
			wantWords(t, s, ended(whole(c-'0')))
			wantWords(t, "x"+s, ended(name("x"+s)))
		case c == ' ' || c == '\t' || c == '\n' || c == '\r':
			wantWords(t, s, ended())
		default:
			wantError(t, s, 0, api.ErrWord)
			wantError(t, "a "+s+" b", 2, api.ErrWord)
		}
	}
}

func TestP8_1Integers(t *testing.T) {
	for s, n := range map[string]int{"0": 0, "7": 7, "10": 10, "100200": 100200, "9223372036854775807": math.MaxInt, "9223372036854775806": math.MaxInt - 1, "1000000000000000000": 1000000000000000000} {
		wantWords(t, s, ended(whole(n)))
		wantWords(t, "("+s+")", ended(mark("("), whole(n), mark(")")))
	}
	for _, s := range []string{"00", "01", "007", "00a", "9223372036854775808", "9223372036854775810", "10000000000000000000", "18446744073709551616", "18446744073709551617", strings.Repeat("9", 300), "0" + strings.Repeat("0", 300)} {
		wantError(t, s, 0, api.ErrWord)
		wantError(t, " 1 + "+s, 5, api.ErrWord)
	}
	wantWords(t, "12ab", ended(whole(12), name("ab")))
	wantWords(t, "0x1f", ended(whole(0), name("x1f")))
	wantWords(t, "1_000", ended(whole(1), name("_000")))
	wantWords(t, "0 0", ended(whole(0), whole(0)))
	wantWords(t, "1.0", ended(whole(1), mark("."), whole(0)))
	wantWords(t, "-1", ended(mark("-"), whole(1)))
	wantWords(t, "-9223372036854775807", ended(mark("-"), whole(math.MaxInt)))
	wantError(t, "-9223372036854775808", 1, api.ErrWord)
}

func TestP8_1Signs(t *testing.T) {
	for s, want := range map[string]string{
		"<=": "<=", ">=": ">=", "!=": "!=",
		"<==": "<= =", "===": "= = =", "=<": "= <", "=>": "= >", "=!=": "= !=", "!==": "!= =", "!=!=": "!= !=",
		"<>": "< >", "><": "> <", "<<=": "< <=", ">>=": "> >=", "< =": "< =", "> =": "> =",
		"..": ". .", "--": "- -", "//": "/ /", "().,": "( ) . ,", "+-*/%": "+ - * / %", "-=": "- =", "+=": "+ =",
	} {
		var l []api.Word
		for _, x := range strings.Fields(want) {
			l = append(l, mark(x))
		}
		wantWords(t, s, ended(l...))
	}
	wantError(t, "!", 0, api.ErrWord)
	wantError(t, "a!", 1, api.ErrWord)
	wantError(t, "a ! = b", 2, api.ErrWord)
	wantError(t, "!!=", 0, api.ErrWord)
	wantError(t, "!=!", 2, api.ErrWord)
	wantError(t, "!<", 0, api.ErrWord)
	wantError(t, "not !a", 4, api.ErrWord)
}

func TestP8_1Literals(t *testing.T) {
	for s, want := range map[string]string{
		`""`:                       "",
		`"a"`:                      "a",
		`" a  b "`:                 " a  b ",
		`"\""`:                     `"`,
		`"\\"`:                     `\`,
		`"\\\""`:                   `\"`,
		`"a\"b\\c"`:                `a"b\c`,
		"\"\t\r\n\"":               "\t\r\n",
		"\"\u00e9\u20ac\ufffd\"":   "\u00e9\u20ac\ufffd",
		"\"\U00010000\U0010ffff\"": "\U00010000\U0010ffff",
		`"'"`:                      "'",
		`"1 + !"`:                  "1 + !",
		"\"\x7f\"":                 "\x7f",
		"\"\\\\\u00e9\"":           "\\\u00e9",
	} {
		wantWords(t, s, ended(text(want)))
		wantWords(t, "a="+s+"b", ended(name("a"), mark("="), text(want), name("b")))
	}
	wantWords(t, `"a""b"`, ended(text("a"), text("b")))
	wantWords(t, `"\\""b"`, ended(text(`\`), text("b")))
}

func TestP8_1WrongLiterals(t *testing.T) {
	for _, s := range []string{
		`"`, `"a`, `"\"`, `"\`, `"a\\\"`, `"\\\`,
		`"\n"`, `"\a"`, `"\ "`, `"\'"`, `"\u0041"`, "\"\\\u00e9\"", "\"\\\x00\"", `"ab\c`, "\"\\\n\"",
		"\"\x00\"", "\"\x1f\"", "\"\x0b\"", "\"\ufffe\"", "\"\uffff\"", "\"\xff\"", "\"\x80\"", "\"a\xc3\"", "\"\xc3\\\"\"", "\"\xe2\x82\\\\\"", "\"\xed\xa0\x80\"", "\"\xc0\xa2\"",
		`'a'`, "`a`",
	} {
		wantError(t, s, 0, api.ErrWord)
		wantError(t, `a = "b" +`+s, 9, api.ErrWord)
	}
}

func TestP8_1LiteralLength(t *testing.T) {
	for _, s := range []string{strings.Repeat("a", 256), strings.Repeat("\u00e9", 128), strings.Repeat("\u20ac", 85) + "a"} {
		wantWords(t, `"`+s+`"`, ended(text(s)))
		wantError(t, `"`+s+`a"`, 0, api.ErrWord)
		wantError(t, `"`+s+`a`, 0, api.ErrWord)
		wantError(t, `1 "`+s+`a"`, 2, api.ErrWord)
		wantWords(t, `"`+s+`"a`, ended(text(s), name("a")))
	}
	// What counts is the text, not how it is written.
	slashes := strings.Repeat(`\`, 142)
	wantWords(t, `"`+strings.Repeat("a", 114)+slashes+slashes+`"`, ended(text(strings.Repeat("a", 114)+slashes)))
	wantError(t, `"`+strings.Repeat("a", 116)+slashes[1:]+slashes[1:]+`"`, 0, api.ErrWord)
	wantWords(t, `"`+strings.Repeat(`\"`, 199)+`"`, ended(text(strings.Repeat(`"`, 199))))
}

func TestP8_1FirstWrongToken(t *testing.T) {
	wantError(t, `01 "`, 0, api.ErrWord)
	wantError(t, `a @ 01`, 2, api.ErrWord)
	wantError(t, `"a" ! #`, 4, api.ErrWord)
	wantError(t, "\t\n\"\u20ac\" #", 8, api.ErrWord)
}

func TestP8_1Memory(t *testing.T) {
	s := `a = "b" + 1`
	first, _, _ := Words(s)
	second, _, _ := Words(s)
	for i := range first {
		first[i] = name("x")
	}
	_ = append(first, name("y"))
	if third, _, _ := Words(s); !reflect.DeepEqual(second, third) {
		t.Error("two results share memory")
	}
}

// The sketch is a lexer of regular expressions.
var (
	gap      = regexp.MustCompile(`^[ \t\n\r]*`)
	nameForm = regexp.MustCompile(`^[A-Za-z_][A-Za-z0-9_]*`)
	digits   = regexp.MustCompile(`^[0-9]+`)
	literals = regexp.MustCompile(`^"((?:[^"\\]|\\["\\])*)"`)
	signs    = regexp.MustCompile(`^(?:<=|>=|!=|[().,+\-*/%<>=])`)
	escape   = regexp.MustCompile(`\\(.)`)
	forbids  = regexp.MustCompile(`[^\t\n\r\x{20}-\x{d7ff}\x{e000}-\x{fffd}\x{10000}-\x{10ffff}]`)
)

func sketchWord(s string) (api.Word, int) {
	if x := nameForm.FindString(s); x != "" {
		return name(x), len(x)
	}
	if x := digits.FindString(s); x != "" {
		n, err := strconv.Atoi(x)
		if err != nil || strconv.Itoa(n) != x {
			return api.Word{}, 0
		}
		return whole(n), len(x)
	}
	if m := literals.FindStringSubmatch(s); m != nil {
		x := escape.ReplaceAllString(m[1], "$1")
		if len(x) > 256 || !utf8.ValidString(x) || forbids.MatchString(x) {
			return api.Word{}, 0
		}
		return text(x), len(m[0])
	}
	x := signs.FindString(s)
	return mark(x), len(x)
}

func sketch(s string) ([]api.Word, int, api.Errno) {
	if len(s) > 400 {
		return nil, 0, api.ErrFull
	}
	var l []api.Word
	for at := 0; ; {
		at += len(gap.FindString(s[at:]))
		if at == len(s) {
			return ended(l...), 0, api.OK
		}
		w, size := sketchWord(s[at:])
		if size == 0 {
			return nil, at, api.ErrWord
		}
		l = append(l, w)
		at += size
	}
}

// scraps are pieces that random expressions are made of.
func scraps() []string {
	l := []string{"a", "b_1", "Z", "_", "and", "0", "1", "12", "9223372036854775807", " ", " ", "\t", "\n", "\r", "(", ")", ".", ",", "+", "-", "*", "/", "%", "<", "<=", ">", ">=", "=", "!=", `""`, `"a b"`, `"\""`, `"\\"`, "\"\u20ac\""}
	return append(l, "\"\n\"", `"`+strings.Repeat("c", 60)+`"`)
}

func wrongScraps() []string {
	return []string{"!", "\"", "\\", "00", "9223372036854775808", "#", "\u00e9", "\x00", "\xff", `"\n"`, "\"\x01\"", "\"\xff\"", `"` + strings.Repeat("d", 257) + `"`, strings.Repeat("e", 150)}
}

func scribble(rnd *rand.Rand, l []string, most int) string {
	s := ""
	for range rnd.Intn(most) {
		s += l[rnd.Intn(len(l))]
	}
	return s
}

func TestP8_1Sketch(t *testing.T) {
	rnd := rand.New(rand.NewSource(8))
	good, all := scraps(), append(scraps(), wrongScraps()...)
	right, wrong := 0, 0
	for i := range 60000 {
		pieces, most := good, 40
		if i%2 == 1 {
			pieces, most = all, 12
		}
		s := scribble(rnd, pieces, most)
		want, wantAt, wantErr := sketch(s)
		l, at, err := Words(s)
		if len(l) != len(want) || len(l) > 0 && !reflect.DeepEqual(l, want) || at != wantAt || err != wantErr {
			t.Fatalf("Words(%q) = %v, %d, error %d, want %v, %d, error %d", s, l, at, err, want, wantAt, wantErr)
		}
		if err == api.OK {
			right++
		} else {
			wrong++
		}
	}
	if right < 10000 || wrong < 10000 {
		t.Error("one-sided:", right, wrong)
	}
}

func TestP8_2Spell(t *testing.T) {
	end := api.Word{}
	for _, x := range []struct {
		l    []api.Word
		want string
	}{
		{nil, ""},
		{[]api.Word{}, ""},
		{ended(), ""},
		{ended(name("a")), "a"},
		{[]api.Word{name("a"), mark("<="), whole(1)}, "a <= 1"},
		{ended(mark("-"), whole(1), mark("."), text("b")), `- 1 . "b"`},
		{ended(whole(0), whole(math.MaxInt)), "0 9223372036854775807"},
		{ended(text(""), text(`"\`), text("\n\u00e9")), "\"\" \"\\\"\\\\\" \"\n\u00e9\""},
		// Words that Words does not return.
		{ended(whole(-5), whole(math.MinInt)), "-5 -9223372036854775808"},
		{ended(text("\xff\x00"), text(strings.Repeat("a", 300))), "\"\xff\x00\" \"" + strings.Repeat("a", 300) + `"`},
		{ended(name("a b"), mark("?!")), "a b ?!"},
		{[]api.Word{end, name("a"), end, end, name("b"), end}, "a b"},
		{[]api.Word{{Kind: 0, Text: "x", Int: 1}, name("a")}, "a"},
		{[]api.Word{name("a"), {Kind: 5, Text: "x", Int: 1}, {Kind: -1, Text: "y"}, {Kind: math.MaxInt, Text: "z"}, {Kind: 1<<32 + 1, Text: "z"}, name("b")}, "a b"},
		{[]api.Word{{Kind: api.WordName, Text: "a", Int: 7}, {Kind: api.WordInt, Text: "x", Int: 7}, {Kind: api.WordText, Text: "b", Int: 7}, {Kind: api.WordSign, Text: "+", Int: 7}}, `a 7 "b" +`},
	} {
		if got := Spell(x.l); got != x.want {
			t.Errorf("Spell(%.200v) = %.60q, want %.60q", x.l, got, x.want)
		}
	}
	many := make([]api.Word, 100000)
	for i := range many {
		many[i] = mark("(")
	}
	if got := Spell(many); got != strings.TrimSuffix(strings.Repeat("( ", len(many)), " ") {
		t.Error("many words:", len(got))
	}
}

func TestP8_2Memory(t *testing.T) {
	l := ended(name("a"), whole(1), mark("+"))
	before := append([]api.Word{}, l...)
	Spell(l[:2])
	if !reflect.DeepEqual(l, before) {
		t.Error("the argument was modified")
	}
}

func TestP8_3WordsOfSpell(t *testing.T) {
	try := func(s string) int {
		l, _, err := Words(s)
		spelt := Spell(l)
		if err != api.OK || len(spelt) > 400 {
			return 0
		}
		if again, at, e := Words(spelt); !reflect.DeepEqual(again, l) || at != 0 || e != api.OK {
			t.Fatalf("Words(%q) = %v, %d, error %d, want %v", spelt, again, at, e, l)
		}
		return 1
	}
	if try("") != 1 || try(strings.Repeat("(", 200)) != 1 || try(strings.Repeat("(", 201)) != 0 || try(`"`+strings.Repeat(`\\`, 199)+`"`) != 1 {
		t.Error("the edges")
	}
	rnd := rand.New(rand.NewSource(3))
	tried := 0
	for range 30000 {
		tried += try(scribble(rnd, scraps(), 60))
	}
	if tried < 10000 {
		t.Error("few lists:", tried)
	}
}
