package xmllex

import (
	"math"
	"reflect"
	"strconv"
	"strings"
	"testing"

	"dossier/api"
	"dossier/chars"
)

func end() api.Token               { return api.Token{} }
func text(s string) api.Token      { return api.Token{Kind: api.TokText, Text: s} }
func closed(name string) api.Token { return api.Token{Kind: api.TokClose, Name: name} }

// opened is an opening tag with attributes, given as name and value in turn.
func opened(name string, attrs ...string) api.Token {
	t := api.Token{Kind: api.TokOpen, Name: name}
	for i := 0; i < len(attrs); i += 2 {
		t.Attrs = append(t.Attrs, api.Attr{Name: attrs[i], Value: attrs[i+1]})
	}
	return t
}

func empty(name string, attrs ...string) api.Token {
	t := opened(name, attrs...)
	t.Empty = true
	return t
}

// same reports whether two tokens are equal; no attributes may be nil or empty.
func same(a, b api.Token) bool {
	if len(a.Attrs) == 0 && len(b.Attrs) == 0 {
		a.Attrs, b.Attrs = nil, nil
	}
	return reflect.DeepEqual(a, b)
}

// tokens checks that a document consists of these tokens, ended by that of the end.
func tokens(t *testing.T, doc string, want ...api.Token) {
	t.Helper()
	at := 0
	for _, w := range append(want, end()) {
		got, next, err := Next([]byte(doc), at)
		if err != api.OK || !same(got, w) {
			t.Fatalf("%q at %d: %+v, error %d, want %+v", doc, at, got, err, w)
		}
		at = next
	}
	if at != len(doc) {
		t.Fatalf("%q ends at %d", doc, at)
	}
}

// wrong checks that a document, read token by token, has an error at an offset.
func wrong(t *testing.T, doc string, at int, want api.Errno) {
	t.Helper()
	for from := 0; ; {
		got, next, err := Next([]byte(doc), from)
		if err == api.OK && got.Kind != api.TokEnd {
			from = next
			continue
		}
		if err != want || next != at || !reflect.DeepEqual(got, api.Token{}) {
			t.Errorf("%q: %+v, %d, error %d, want %d, error %d", doc, got, next, err, at, want)
		}
		return
	}
}

func TestP5_1Example(t *testing.T) {
	got, next, err := Next([]byte("<a b='1'/>"), 0)
	if err != api.OK || next != 10 || !same(got, empty("a", "b", "1")) {
		t.Fatal(got, next, err)
	}
}

func TestP5_1OffsetOutside(t *testing.T) {
	for _, b := range [][]byte{nil, {}, []byte("<a/>")} {
		for _, at := range []int{-1, math.MinInt, len(b) + 1, math.MaxInt} {
			if got, next, err := Next(b, at); err != api.ErrArg || next != 0 || !reflect.DeepEqual(got, api.Token{}) {
				t.Error("Next", at, got, next, err)
			}
			if next, err := Skip(b, at); err != api.ErrArg || next != 0 {
				t.Error("Skip", at, next, err)
			}
		}
		if got, next, err := Next(b, len(b)); err != api.OK || next != len(b) || got.Kind != api.TokEnd {
			t.Error("Next at the end", got, next, err)
		}
	}
}

func TestP5_1Offsets(t *testing.T) {
	doc := "<a> <!--x--><?p q?>b</a ><![CDATA[]]><c/>"
	ends := []int{}
	for at := 0; at < len(doc); {
		_, next, err := Next([]byte(doc), at)
		if err != api.OK {
			t.Fatal(at, err)
		}
		ends = append(ends, next)
		at = next
	}
	if want := []int{3, 4, 20, 25, 37, 41}; !reflect.DeepEqual(ends, want) {
		t.Fatal(ends, want)
	}
}

func TestP5_1OpeningTags(t *testing.T) {
	tokens(t, "<a>", opened("a"))
	tokens(t, "<a\t\r\n >", opened("a"))
	tokens(t, "<a/>", empty("a"))
	tokens(t, "<a \n/>", empty("a"))
	tokens(t, "<p:a/>", empty("p:a"))
	tokens(t, "<_.-1:\u00e9\u00b7/>", empty("_.-1:\u00e9\u00b7"))
	tokens(t, "<a b='1' p:c=\"2\">", opened("a", "b", "1", "p:c", "2"))
	tokens(t, "<a\r\n\tb \t=\n '1'\r c= \"\"/>", empty("a", "b", "1", "c", ""))
	tokens(t, "<a b='1' b='2'>", opened("a", "b", "1", "b", "2"))
	tokens(t, "<a b='\"'/>", empty("a", "b", "\""))
	tokens(t, "<a b=\"'\" c='/>]]>--'>x", opened("a", "b", "'", "c", "/>]]>--"), text("x"))
	tokens(t, "<"+strings.Repeat("n", 5000)+" b='"+strings.Repeat("v", 5000)+"'>", opened(strings.Repeat("n", 5000), "b", strings.Repeat("v", 5000)))
}

func TestP5_1ManyAttributesInOrder(t *testing.T) {
	doc := "<a"
	want := api.Token{Kind: api.TokOpen, Name: "a"}
	for i := range 1000 {
		n := strconv.Itoa(i * 7919 % 1000)
		doc += " x" + n + "='" + n + "'"
		want.Attrs = append(want.Attrs, api.Attr{Name: "x" + n, Value: n})
	}
	tokens(t, doc+">", want)
}

func TestP5_1WrongOpeningTags(t *testing.T) {
	for _, doc := range []string{
		"<", "<>", "< a>", "<1>", "<-a>", "<:a>", "<a:>", "<a:1>", "<a:b:c>", "<a: b>", "<a :b>", "<\u00b7>", "<\xff>", "<a\xff>", "<a\x00>", "<!>", "<!a>", "<&lt;>",
		"<a", "<a ", "<a/", "<a/ >", "<a//>", "<a / >", "<a<b>", "<a\u00a0>", "<a\v>",
		"<a b>", "<a b >", "<a b/>", "<a b=>", "<a b= >", "<a b=1>", "<a b=`1`>", "<a b='1>", "<a b=\"1'>", "<a b='1\">", "<a b='", "<a b=", "<a b", "<a b='1'", "<a b='1' ",
		"<a b='1'c='2'>", "<a b='1'\"2\">", "<a b=''''>", "<a ='1'>", "<a '1'>", "<a b:='1'>", "<a :b='1'>", "<a b:c:d='1'>", "<a b: c='1'>", "<a b :c='1'>", "<a 1='1'>", "<a b=='1'>",
		"<a b='<'>", "<a b='x<y' c='&z;'>", "<a b=\"</a>\">", "<a b='1' c='<!--'>",
		"<!doctype a>", "<!DOCTYP", "<! DOCTYPE a>", "<![CDATA", "<![cdata[x]]>", "<!-", "<!- x -->", "<!ELEMENT a>",
	} {
		wrong(t, doc, 0, api.ErrMark)
		wrong(t, "x<y/><!-- -->"+doc, 13, api.ErrMark)
	}
}

func TestP5_1ClosingTags(t *testing.T) {
	tokens(t, "</a>", closed("a"))
	tokens(t, "</p:a\t\r\n >x", closed("p:a"), text("x"))
	for _, doc := range []string{"</", "</>", "</ a>", "</a", "</a ", "</a/>", "</a b>", "</a b='1'>", "</1>", "</a:>", "</:a>", "</a:b:c>", "</a<"} {
		wrong(t, doc, 0, api.ErrMark)
		wrong(t, "<?p?>"+doc, 5, api.ErrMark)
	}
}

func TestP5_1Text(t *testing.T) {
	tokens(t, "")
	tokens(t, "a>b]]\"'\u00e9", text("a>b]]\"'\u00e9"))
	tokens(t, " \n\t ", text(" \n\t "))
	tokens(t, "]]&gt;]] >]>", text("]]>]] >]>"))
	tokens(t, "a<b/>c", text("a"), empty("b"), text("c"))
	tokens(t, "\xff\x00<b/>", text("\xff\x00"), empty("b"))
	tokens(t, "a<!--x-->b<?p?>c", text("a"), text("b"), text("c"))
	wrong(t, "ab]]>", 0, api.ErrMark)
	wrong(t, "<a/>]]>", 4, api.ErrMark)
	wrong(t, "ab]]]>c<d/>", 0, api.ErrMark)
	wrong(t, "ab&lt<c>", 0, api.ErrEntity)
}

func TestP5_1Cdata(t *testing.T) {
	tokens(t, "<![CDATA[]]>", text(""))
	tokens(t, "<![CDATA[<a>&lt;&x;--]]>", text("<a>&lt;&x;--"))
	tokens(t, "a<![CDATA[b]]>c<![CDATA[d]]]]><![CDATA[>]]>", text("a"), text("b"), text("c"), text("d]]"), text(">"))
	tokens(t, "<![CDATA[<![CDATA[]]>", text("<![CDATA["))
	tokens(t, "<![CDATA[\r\n\r\r\n\t\n\r]]>", text("\n\n\n\t\n\n"))
	for _, doc := range []string{"<![CDATA[", "<![CDATA[a", "<![CDATA[]]", "<![CDATA[]] >", "<![CDATA[a]>", "<![CDATA [a]]>"} {
		wrong(t, doc, 0, api.ErrMark)
		wrong(t, "a<!---->"+doc, 8, api.ErrMark)
	}
	wrong(t, "<![CDATA[a]]>]]>", 13, api.ErrMark)
}

func TestP5_1CommentsAndInstructions(t *testing.T) {
	tokens(t, "<!----><a/>", empty("a"))
	tokens(t, "<!-- <a> & - ]]> <?x -\n--><?p?><!--\xff--><a/><!---->", empty("a"))
	tokens(t, "<?p?><?p ?><?p\n?q? >'<?\t?>x", text("x"))
	tokens(t, "<?xml version='1.0'?>\n<a/>", text("\n"), empty("a"))
	tokens(t, "<?p <!-- ?>x<!-- <?p -->", text("x"))
	for _, doc := range []string{
		"<!--", "<!-->", "<!--->", "<!-- x", "<!-- x -", "<!-- x --", "<!-- x -- >", "<!-- x -- y -->", "<!-- x --->", "<!----->",
		"<?", "<??>", "<? p?>", "<?1?>", "<?p", "<?p?", "<?p >", "<?p:q?>", "<?p?q?>", "<?p'?>", "<?p ? >", "<?p\u00a0?>", "<?\xff?>",
	} {
		wrong(t, doc, 0, api.ErrMark)
		wrong(t, "<a/><!--1--><?p 2?>"+doc, 19, api.ErrMark)
		wrong(t, "x"+doc, 1, api.ErrMark)
	}
}

func TestP5_1DocumentType(t *testing.T) {
	for _, doc := range []string{"<!DOCTYPE", "<!DOCTYPE a>", "<!DOCTYPEa>", "<!DOCTYPE a [<!ENTITY b 'c'>]>", "<!DOCTYPE &x; ]]>"} {
		wrong(t, doc, 0, api.ErrType)
		wrong(t, "<a><!-- --> "+doc, 12, api.ErrType)
		wrong(t, "<?p?><!---->"+doc, 12, api.ErrType)
	}
}

func TestP5_1WrongReferences(t *testing.T) {
	for _, ref := range badReferences() {
		wrong(t, "a"+ref, 0, api.ErrEntity)
		wrong(t, "<?p?><!---->a &lt; "+ref+" &gt;<b/>", 12, api.ErrEntity)
		wrong(t, "<a b='1' c='&lt;"+ref+"'/>", 0, api.ErrEntity)
		wrong(t, "<x><a b=\""+ref+"\">", 3, api.ErrEntity)
		tokens(t, "<!--"+ref+"--><?p "+ref+"?><![CDATA["+ref+"]]>", text(ref))
	}
}

func TestP5_1MarkAheadOfEntity(t *testing.T) {
	wrong(t, "&x; ]]>", 0, api.ErrMark)
	wrong(t, "]]> &x;", 0, api.ErrMark)
	wrong(t, "a<b/>&x;]]><", 5, api.ErrMark)
	wrong(t, "&x;<", 0, api.ErrEntity)
	wrong(t, "&x;<b/>]]>", 0, api.ErrEntity)
	for doc, want := range map[string]api.Errno{
		"<a b='&x;":            api.ErrMark,
		"<a b='&x;<'>":         api.ErrMark,
		"<a b='<&x;'>":         api.ErrMark,
		"<a b '&x;'>":          api.ErrMark,
		"<a b='&x;'":           api.ErrEntity,
		"<a b='&x;'c='1'>":     api.ErrEntity,
		"<a b='&x;' c='<'>":    api.ErrEntity,
		"<a b='&x;' c>":        api.ErrEntity,
		"<a b='&x;' 1>":        api.ErrEntity,
		"<a b='&x;' / >":       api.ErrEntity,
		"<a b='1' c='<&x;'>":   api.ErrMark,
		"<a b='<' c='&x;'>":    api.ErrMark,
		"<a b='1'c='&x;'>":     api.ErrMark,
		"<a:b:c d='&x;'>":      api.ErrMark,
		"<a b='1' c='&x;' d='": api.ErrEntity,
	} {
		wrong(t, doc, 0, want)
	}
}

func TestP5_1LineEndsAndBlanks(t *testing.T) {
	tokens(t, "a\r\nb\rc\nd\r\r\n\n\re\tf&#13;&#xD;\n&#10;", text("a\nb\nc\nd\n\n\n\ne\tf\r\r\n\n"))
	tokens(t, "a\r&#10;b&#13;\nc", text("a\n\nb\r\nc"))
	tokens(t, "<a b='a\r\nb\rc\nd\r\r\n\n\re\tf'/>", empty("a", "b", "a b c d    e f"))
	tokens(t, "<a b=\"&#9;\t&#10;\n&#13;\r&#xa;\r\n&#xD;&#x9; &#32;\"/>", empty("a", "b", "\t \n \r \n \r\t  "))
	tokens(t, "<a b='\r&#10;&#13;\n' c='\u00a0\u2028\x0b'/>", empty("a", "b", " \n\r ", "c", "\u00a0\u2028\x0b"))
	tokens(t, "<a b=' x  y ' c='&lt;&amp;&quot;&apos;&gt;'>", opened("a", "b", " x  y ", "c", "<&\"'>"))
}

// A line end may be split by the offset, but not by a token.
func TestP5_1OffsetWithin(t *testing.T) {
	for _, x := range []struct {
		doc  string
		at   int
		want api.Token
		next int
	}{
		{"a\r\nb", 2, text("\nb"), 4},
		{"a\r\nb", 1, text("\nb"), 4},
		{"<a b='1'/>", 1, text("a b='1'/>"), 10},
		{"<!--x-->", 2, text("--x-->"), 8},
		{"x]]>y", 2, text("]>y"), 5},
		{"&lt;", 1, text("lt;"), 4},
	} {
		if got, next, err := Next([]byte(x.doc), x.at); err != api.OK || next != x.next || !same(got, x.want) {
			t.Errorf("%q at %d: %+v, %d, error %d", x.doc, x.at, got, next, err)
		}
	}
}

func TestP5_1Skip(t *testing.T) {
	for _, x := range []struct {
		doc      string
		at, want int
		err      api.Errno
	}{
		{"", 0, 0, api.OK},
		{"a<!---->", 0, 0, api.OK},
		{"a<!---->", 1, 8, api.OK},
		{"<!--x--><?p?>", 0, 13, api.OK},
		{"<!--x--><?p?>", 8, 13, api.OK},
		{"<!--x--> <?p?>", 0, 8, api.OK},
		{"<!--x--> <?p?>", 8, 8, api.OK},
		{"<?p q?><!----><a>", 0, 14, api.OK},
		{"<!---->&x;", 0, 7, api.OK},
		{"<!---->]]>", 0, 7, api.OK},
		{"<!----></", 0, 7, api.OK},
		{"<?p?><!DOCTYPE a>", 0, 5, api.OK},
		{"<?p?><![CDATA[", 0, 5, api.OK},
		{"<?p?><!-", 0, 5, api.OK},
		{"<?p?><", 0, 5, api.OK},
		{"<?p?><!--", 0, 5, api.ErrMark},
		{"<?p?><!-- -- -->", 0, 5, api.ErrMark},
		{"<!----><?", 0, 7, api.ErrMark},
		{"<!----><?p?", 0, 7, api.ErrMark},
		{"<!--<!---->", 0, 0, api.ErrMark},
		{"<!--<!---->", 4, 11, api.OK},
		{"<??><!---->", 0, 0, api.ErrMark},
	} {
		if got, err := Skip([]byte(x.doc), x.at); got != x.want || err != x.err {
			t.Errorf("Skip(%q, %d) = %d, error %d, want %d, error %d", x.doc, x.at, got, err, x.want, x.err)
		}
	}
}

func TestP5_1Memory(t *testing.T) {
	whole := []byte("<!--x--><a b='\r\n1&lt;' c='2'>text\r\n&amp;")
	before := string(whole)
	tag, at, _ := Next(whole[:30], 0)
	again, _, _ := Next(whole, 0)
	txt, _, _ := Next(whole, at)
	if _, err := Skip(whole, 0); err != api.OK || string(whole) != before {
		t.Fatalf("the argument was modified: %q", whole)
	}
	again.Attrs[0].Value = "other"
	again.Attrs = append(again.Attrs[:1], api.Attr{Name: "z"})
	for i := range whole {
		whole[i] = 'z'
	}
	if !same(tag, opened("a", "b", " 1<", "c", "2")) || txt.Text != "text\n&" {
		t.Fatalf("a token shares memory: %+v, %+v", tag, txt)
	}
}

// badReferences are those that Unescape refuses at their first byte.
func badReferences() []string {
	l := []string{
		"&", "&;", "& ", "&lt", "& lt;", "&lt ;", "&LT;", "&Lt;", "&ltx;", "&l;", "&nbsp;", "&x;", "&amp", "&#;", "&#x;", "&#", "&#x", "&#65", "&#x41", "& #65;", "&# 65;", "&#65 ;", "&#x 41;", "&#X41;", "&#-65;", "&#+65;", "&#x-41;", "&#x+41;", "&#6_5;", "&#x4_1;", "&#0x41;", "&#6a;", "&#x4g;", "&#x0x41;", "&#\u0661;", "&#1.0;", "&#1e1;", "&#65&;", "&#\xff;",
		"&#0;", "&#00;", "&#x0;", "&#1;", "&#8;", "&#11;", "&#12;", "&#14;", "&#31;", "&#xb;", "&#x1f;", "&#xd800;", "&#xDFFF;", "&#55296;", "&#57343;", "&#xfffe;", "&#xffff;", "&#65534;", "&#x110000;", "&#1114112;",
		"&#4294967361;", "&#x100000041;", "&#18446744073709551681;", "&#x10000000000000041;", "&#" + strings.Repeat("9", 3000) + ";", "&#x" + strings.Repeat("f", 3000) + ";", "&#x1" + strings.Repeat("0", 3000) + "41;",
	}
	for _, name := range []string{"lt", "gt", "amp", "apos", "quot"} {
		l = append(l, "&"+name[:len(name)-1]+";", "&"+name, "&"+strings.ToUpper(name)+";", "&"+name+name+";", "&#"+name+";")
	}
	return l
}

func TestP5_2Unescape(t *testing.T) {
	for s, want := range map[string]string{
		"":                                 "",
		"&lt;&gt;&amp;&apos;&quot;":        "<>&'\"",
		"a&amp;lt;b":                       "a&lt;b",
		"&#65;&#x41;&#0065;&#x00041;":      "AAAA",
		"&#xe9;&#xE9;&#233;\u00e9":         "\u00e9\u00e9\u00e9\u00e9",
		"&#x10FFFF;&#x10ffff;&#1114111;":   "\U0010ffff\U0010ffff\U0010ffff",
		"&#xD7FF;&#xe000;&#xfffd;&#65533;": "\ud7ff\ue000\ufffd\ufffd",
		"&#9;&#10;&#13;&#32;":              "\t\n\r ",
		"\r\n\r\t\n\r\r\n":                 "\n\n\t\n\n\n",
		"\r&#13;\r&#10;\n&#13;\n":          "\n\r\n\n\n\r\n",
		"a<b>]]>\"'</c>":                   "a<b>]]>\"'</c>",
		"\xff\x00;":                        "\xff\x00;",
		"#65;&#" + strings.Repeat("0", 3000) + "65;": "#65;A",
		"&#x" + strings.Repeat("0", 3000) + "41;":    "A",
	} {
		if got, at, err := Unescape([]byte(s)); got != want || at != 0 || err != api.OK {
			t.Errorf("Unescape(%.50q) = %q, %d, error %d", s, got, at, err)
		}
	}
	if got, at, err := Unescape(nil); got != "" || at != 0 || err != api.OK {
		t.Error("Unescape(nil)", got, at, err)
	}
}

func TestP5_2WrongReferences(t *testing.T) {
	for _, ref := range badReferences() {
		for _, tail := range []string{"", " ", "<", " &lt;", "&;"} {
			for _, lead := range []string{"", "a", "&lt;", "\r\n\r\n", "\u00e9&#x41;\r"} {
				if got, at, err := Unescape([]byte(lead + ref + tail)); got != "" || at != len(lead) || err != api.ErrEntity {
					t.Errorf("Unescape(%.50q) = %q, %d, error %d", lead+ref+tail, got, at, err)
				}
			}
		}
	}
}

func TestP5_2EveryNumber(t *testing.T) {
	for n := 0; n <= 0x110010; n++ {
		c := chars.Encode(n)
		valid := len(c) > 0 && chars.Wrong(c) == -1
		for _, ref := range []string{"&#" + strconv.Itoa(n) + ";", "&#x" + strconv.FormatInt(int64(n), 16) + ";", "&#x0" + strings.ToUpper(strconv.FormatInt(int64(n), 16)) + ";"} {
			got, at, err := Unescape([]byte("a" + ref))
			if valid && (got != "a"+string(c) || at != 0 || err != api.OK) || !valid && (got != "" || at != 1 || err != api.ErrEntity) {
				t.Fatalf("Unescape(a%s) = %q, %d, error %d", ref, got, at, err)
			}
		}
	}
}

func TestP5_2Escape(t *testing.T) {
	for s, want := range map[string]string{
		"":                 "",
		"<a b=\"c\">&</a>": "&lt;a b=&quot;c&quot;&gt;&amp;&lt;/a&gt;",
		"\t\n\r\r\n'":      "&#9;&#10;&#13;&#13;&#10;'",
		"&lt;]]>":          "&amp;lt;]]&gt;",
		"\u00e9\u20ac":     "\u00e9\u20ac",
		"\xff\x80&\xc3":    "\xff\x80&amp;\xc3",
	} {
		if got := Escape(s); got != want {
			t.Errorf("Escape(%q) = %q", s, got)
		}
	}
	changed := map[int]string{'&': "&amp;", '<': "&lt;", '>': "&gt;", '"': "&quot;", 9: "&#9;", 10: "&#10;", 13: "&#13;"}
	for i := range 256 {
		want, is := changed[i]
		if !is {
			want = string([]byte{byte(i)})
		}
		if got := Escape(string([]byte{byte(i)})); got != want {
			t.Errorf("Escape of byte %x = %q", i, got)
		}
	}
}

func TestP5_3UnescapeOfEscape(t *testing.T) {
	l := []string{"", "&lt;", "&#13;", "]]>", "\r\n", "\xff\xfe", strings.Repeat("&\r\n<\u00e9", 5000)}
	for a := range 256 {
		for b := range 256 {
			l = append(l, string([]byte{byte(a), byte(b)}), string([]byte{byte(a), '\n', byte(b), ';'}))
		}
	}
	for _, s := range l {
		if got, at, err := Unescape([]byte(Escape(s))); got != s || at != 0 || err != api.OK {
			t.Fatalf("Unescape(Escape(%.50q)) = %.50q, %d, error %d", s, got, at, err)
		}
	}
}

// Read token by token, this takes hours if each token costs time for all that follows.
func TestP5_1LongDocuments(t *testing.T) {
	for _, piece := range []string{"<a b='&lt;'/>", "&lt;&#65;x", "<!----><?p?>", "a<![CDATA[b]]>", "</a>\r"} {
		doc := []byte(strings.Repeat(piece, 1<<22/len(piece)))
		for at := 0; ; {
			token, next, err := Next(doc, at)
			if err != api.OK {
				t.Fatal(piece, at, err)
			}
			if token.Kind == api.TokEnd {
				break
			}
			at = next
		}
	}
}
