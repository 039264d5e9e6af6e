package xmltree

import (
	"reflect"
	"strconv"
	"strings"
	"testing"

	"dossier/api"
)

// bare is e with nil for each list of no elements.
func bare(e api.Element) api.Element {
	e.Attrs = append([]api.Pair(nil), e.Attrs...)
	var kids []api.Element
	for _, kid := range e.Kids {
		kids = append(kids, bare(kid))
	}
	e.Kids = kids
	return e
}

func same(a, b api.Element) bool { return reflect.DeepEqual(bare(a), bare(b)) }

func parsed(t *testing.T, doc string, want api.Element) {
	t.Helper()
	got, at, err := Parse([]byte(doc))
	if err != api.OK || at != 0 || !same(got, want) {
		t.Errorf("%.100q: %+v, %d, error %d, want %+v", doc, got, at, err, want)
	}
}

func refused(t *testing.T, doc string, at int, want api.Errno) {
	t.Helper()
	got, offset, err := Parse([]byte(doc))
	if err != want || offset != at || !reflect.DeepEqual(got, api.Element{}) {
		t.Errorf("%.100q: %+v, %d, error %d, want %d, error %d", doc, got, offset, err, at, want)
	}
}

// refusedTag checks that a tag is refused as a root, as a kid, and if it is empty.
func refusedTag(t *testing.T, tag string, want api.Errno) {
	t.Helper()
	refused(t, "<"+tag+"/>", 0, want)
	refused(t, "<!--x--><"+tag+">", 8, want)
	refused(t, "<x> <y>z</y><?p?><!----><"+tag+"/></x>", 24, want)
}

func named(name string, kids ...api.Element) api.Element {
	return api.Element{Name: name, Kids: kids}
}

func TestP6_1Elements(t *testing.T) {
	parsed(t, "<a/>", named("a"))
	parsed(t, "<a></a >", named("a"))
	parsed(t, "<a\n/>", named("a"))
	parsed(t, "<a><b/><c><b/></c><b></b></a>", named("a", named("b"), named("c", named("b")), named("b")))
	parsed(t, "<a c='1' b='2' xml:c=''/>", api.Element{Name: "a", Attrs: []api.Pair{
		{Name: "c", Value: "1"}, {Name: "b", Value: "2"}, {Space: "http://www.w3.org/XML/1998/namespace", Name: "c"},
	}})
	parsed(t, "<?xml version='1.0'?>\r\n<!--x-->\t<a/><!--x-->\r <?p?> ", named("a"))
	parsed(t, "&#32;&#13;<![CDATA[ ]]><a/><![CDATA[]]>&#x9;", named("a"))
	parsed(t, "<\u00e9\u00b7 b='&lt;\n&#10;'/>", api.Element{Name: "\u00e9\u00b7", Attrs: []api.Pair{{Name: "b", Value: "< \n"}}})
}

func TestP6_1Text(t *testing.T) {
	kid := named("k")
	for doc, want := range map[string]string{
		"":                                 "",
		" \t\n&#13;":                       " \t\n\r",
		"a\r\nb&lt;":                       "a\nb<",
		"a<!--x-->b<?p?><![CDATA[<c>]]> d": "ab<c> d",
		"<![CDATA[ ]]>":                    " ",
		"\u00a0":                           "\u00a0",
	} {
		parsed(t, "<a>"+doc+"</a>", api.Element{Name: "a", Text: want})
	}
	for doc, want := range map[string]string{
		"<k/>":                           "",
		" <k/>\t\n":                      "",
		"&#13;<k/><![CDATA[ ]]>":         "",
		" a<k/> b ":                      " a b ",
		" <k/>b":                         " b",
		"a<k/>":                          "a",
		"<k></k>\u00a0":                  "\u00a0",
		"<!--x-->a<k/><?p?><!---->&amp;": "a&",
	} {
		parsed(t, "<a>"+doc+"</a>", api.Element{Name: "a", Text: want, Kids: []api.Element{kid}})
	}
	parsed(t, "<a>1<b>2</b>3<b> 4<c/></b> </a>", api.Element{Name: "a", Text: "13 ", Kids: []api.Element{
		{Name: "b", Text: "2"}, {Name: "b", Text: " 4", Kids: []api.Element{named("c")}},
	}})
}

func TestP6_1Namespaces(t *testing.T) {
	in := func(space, name string, kids ...api.Element) api.Element {
		return api.Element{Space: space, Name: name, Kids: kids}
	}
	parsed(t, "<a xmlns='u'><b/><c xmlns=''><d/><e xmlns='v'/></c><f/></a>",
		in("u", "a", in("u", "b"), in("", "c", in("", "d"), in("v", "e")), in("u", "f")))
	parsed(t, "<p:a xmlns:p='u'><b/><p:c xmlns:p='v'><p:d/></p:c><p:e/></p:a>",
		in("u", "a", in("", "b"), in("v", "c", in("v", "d")), in("u", "e")))
	parsed(t, "<a xmlns='u' xmlns:p='v'><b xmlns:p='w' xmlns='x'/><p:c/><d/></a>",
		in("u", "a", in("x", "b"), in("v", "c"), in("u", "d")))
	parsed(t, "<a><b xmlns='u'></b><b xmlns:p='v' xmlns='w'/><b/></a>",
		in("", "a", in("u", "b"), in("w", "b"), in("", "b")))
	parsed(t, "<xml:a><b/></xml:a>", in("http://www.w3.org/XML/1998/namespace", "a", in("", "b")))
	parsed(t, "<xmlns/>", in("", "xmlns"))
	parsed(t, "<a xmlns=' &lt;\n'/>", in(" < ", "a"))
	parsed(t, "<xmlnsp:a xmlnsp='1' xmlns:xmlnsp='u' xmlns:xm='v' xm:l='2' p:xmlns='3' xmlns:p='w'/>",
		api.Element{Space: "u", Name: "a", Attrs: []api.Pair{{Name: "xmlnsp", Value: "1"}, {Space: "v", Name: "l", Value: "2"}, {Space: "w", Name: "xmlns", Value: "3"}}})
	parsed(t, "<p:a p:b='1' c='2' xmlns:p='u' q:b='3' xmlns='v' b='4' xmlns:q='w'><d p:b='5' b='6'/></p:a>",
		api.Element{Space: "u", Name: "a",
			Attrs: []api.Pair{{Space: "u", Name: "b", Value: "1"}, {Name: "c", Value: "2"}, {Space: "w", Name: "b", Value: "3"}, {Name: "b", Value: "4"}},
			Kids:  []api.Element{{Space: "v", Name: "d", Attrs: []api.Pair{{Space: "u", Name: "b", Value: "5"}, {Name: "b", Value: "6"}}}}})
	parsed(t, "<a xmlns:p='http://www.w3.org/XML/1998/namespace' p:b='1'/>",
		api.Element{Name: "a", Attrs: []api.Pair{{Space: "http://www.w3.org/XML/1998/namespace", Name: "b", Value: "1"}}})
	parsed(t, "<a xmlns='http://www.w3.org/2000/xmlns/'/>", in("http://www.w3.org/2000/xmlns/", "a"))
}

func TestP6_1TooLong(t *testing.T) {
	long := func(n int) string { return "<a>" + strings.Repeat("x", n-7) + "</a>" }
	parsed(t, long(api.MaxText), api.Element{Name: "a", Text: strings.Repeat("x", api.MaxText-7)})
	refused(t, long(api.MaxText+1), 0, api.ErrFull)
	refused(t, "<a/>"+strings.Repeat("\x00", api.MaxText), 0, api.ErrFull)
	refused(t, "<a>"+strings.Repeat("<", api.MaxText), 0, api.ErrFull)
	parsed(t, "<a/>"+strings.Repeat(" ", api.MaxText-4), named("a"))
}

func TestP6_1WrongCharacters(t *testing.T) {
	refused(t, "<a>\x01</a>", 3, api.ErrChar)
	refused(t, "<a/>\xff", 4, api.ErrChar)
	refused(t, "<a>\u00e9\ufffe</a>", 5, api.ErrChar)
	refused(t, "<a><!--\x00--></a>", 7, api.ErrChar)
	// All bytes are checked ahead of the first token.
	refused(t, "<<a></b>&x;]]>\xc3", 14, api.ErrChar)
	refused(t, "\x0b", 0, api.ErrChar)
}

func TestP6_1ErrorsOfTokens(t *testing.T) {
	refused(t, "<", 0, api.ErrMark)
	refused(t, "<a><b c=1/></a>", 3, api.ErrMark)
	refused(t, "<a>x]]>y</a>", 3, api.ErrMark)
	refused(t, "<a/><!-- -- -->", 4, api.ErrMark)
	refused(t, "<!----> <!--", 8, api.ErrMark)
	refused(t, "<a/><!----><?", 11, api.ErrMark)
	refused(t, " <!DOCTYPE a><a/>", 1, api.ErrType)
	refused(t, "<a><?p?><!DOCTYPE a></a>", 8, api.ErrType)
	refused(t, "<a>b&nbsp;</a>", 3, api.ErrEntity)
	refused(t, "<a><!----><b c='&x;'/></a>", 10, api.ErrEntity)
	refused(t, "<a/>&x;", 4, api.ErrEntity)
	// Token by token: an error that comes sooner counts.
	refused(t, "<a></b><", 3, api.ErrNest)
	refused(t, "<a><</b>", 3, api.ErrMark)
	refused(t, "<a/><b/>&x;", 4, api.ErrNest)
	// Within a token the tokenizer comes first.
	refused(t, "<a/><b c='&x;'/>", 4, api.ErrEntity)
	refused(t, "<p:a b='1' b='2' c/>", 0, api.ErrMark)
	refused(t, "x]]>", 0, api.ErrMark)
	refused(t, "<a"+attributes(202)+" '>", 0, api.ErrMark)
}

func TestP6_1Nesting(t *testing.T) {
	for _, x := range []struct {
		doc string
		at  int
	}{
		{"", 0}, {" \n", 2}, {"<!--x-->", 8}, {"<?p?> ", 6}, {"<?p?> <!---->", 13},
		{"x", 0}, {" x<a/>", 0}, {"<!--x--> x<a/>", 8}, {"<a/>x", 4}, {"<a></a> <!----> x <b/>", 15}, {"\ufeff<a/>", 0}, {"<![CDATA[x]]><a/>", 0}, {"<a/>&lt;", 4}, {"\u00a0<a/>", 0},
		{"<a/><b/>", 4}, {"<a></a> <!----><a></a>", 15}, {"<a/><a>", 4}, {"<a/> <b c='1' c='2'/>", 5}, {"<a/><p:b/>", 4}, {"<a/><b" + attributes(202) + "/>", 4},
		{"</a>", 0}, {" <!----></a>", 8}, {"<a/></a>", 4}, {"<a></a></a>", 7}, {"<a></b>", 3}, {"<a>x<?p?></b>", 9}, {"<a><b></a></b>", 6}, {"<a><b></b></b></a>", 10}, {"<a><b/></b>", 7}, {"<a></A>", 3},
		{"<p:a xmlns:p='u'></a>", 17}, {"<a xmlns='u' xmlns:p='u'></p:a>", 25}, {"<p:a xmlns:p='u' xmlns:q='u'></q:a>", 29},
		{"<a>", 3}, {"<a>x", 4}, {"<a><b></b>", 10}, {"<a><b/>", 7}, {"<a><b> <!--x-->", 15}, {"<a><b>", 6},
	} {
		refused(t, x.doc, x.at, api.ErrNest)
	}
	parsed(t, "<p:a xmlns:p='u'></p:a\n>", api.Element{Space: "u", Name: "a"})
}

func nest(levels int) string {
	return strings.Repeat("<a>", levels) + strings.Repeat("</a>", levels)
}

func TestP6_1Depth(t *testing.T) {
	e := named("a")
	for range api.MaxDepth - 1 {
		e = named("a", e)
	}
	parsed(t, nest(api.MaxDepth), e)
	refused(t, nest(api.MaxDepth+1), 3*api.MaxDepth, api.ErrFull)
	refused(t, strings.Repeat("<a>", api.MaxDepth)+" <!--x--><b/>", 3*api.MaxDepth+9, api.ErrFull)
	refused(t, strings.Repeat("<a>", api.MaxDepth)+"<p:b c='1' c='2'/>", 3*api.MaxDepth, api.ErrFull)
	refused(t, strings.Repeat("<a>", 1000), 3*api.MaxDepth, api.ErrFull)
	// What counts are the open elements, not those that have been read.
	parsed(t, "<a>"+strings.Repeat("<b><c/></b>", api.MaxDepth)+"</a>", named("a", repeated(named("b", named("c")), api.MaxDepth)...))
}

func repeated(e api.Element, n int) []api.Element {
	var l []api.Element
	for range n {
		l = append(l, e)
	}
	return l
}

func TestP6_1Kids(t *testing.T) {
	parsed(t, "<a>"+strings.Repeat("<b/>", api.MaxKids)+"</a>", named("a", repeated(named("b"), api.MaxKids)...))
	refused(t, "<a>"+strings.Repeat("<b/>", api.MaxKids+1)+"</a>", 3+4*api.MaxKids, api.ErrFull)
	refused(t, "<a>"+strings.Repeat("<b/>", api.MaxKids)+"<!--x--><c>", 3+4*api.MaxKids+8, api.ErrFull)
	refused(t, "<a>"+strings.Repeat("<b/>", api.MaxKids)+"<p:c d='1' d='2'/>", 3+4*api.MaxKids, api.ErrFull)
	refused(t, "<a>"+strings.Repeat("<b/>", api.MaxKids)+"<c", 3+4*api.MaxKids, api.ErrMark)
	// Each element has kids of its own.
	parsed(t, "<a>"+strings.Repeat("<b><c/><c/></b>", api.MaxKids)+"x</a>",
		api.Element{Name: "a", Text: "x", Kids: repeated(named("b", named("c"), named("c")), api.MaxKids)})
}

func attributes(n int) string {
	s := ""
	for i := range n {
		s += " a" + strconv.Itoa(i) + "=''"
	}
	return s
}

func TestP6_1Attributes(t *testing.T) {
	want := named("a")
	for i := range 2*api.MaxKids + 1 {
		want.Attrs = append(want.Attrs, api.Pair{Name: "a" + strconv.Itoa(i)})
	}
	parsed(t, "<a"+attributes(2*api.MaxKids+1)+"/>", want)
	refusedTag(t, "a"+attributes(2*api.MaxKids+2), api.ErrFull)
	want.Attrs = want.Attrs[:2*api.MaxKids]
	parsed(t, "<a"+attributes(2*api.MaxKids)+" xmlns='u'><b/></a>", api.Element{Space: "u", Name: "a", Attrs: want.Attrs, Kids: []api.Element{{Space: "u", Name: "b"}}})
	refusedTag(t, "a"+attributes(2*api.MaxKids+1)+" xmlns='u'", api.ErrFull)
	refusedTag(t, "p:a"+attributes(2*api.MaxKids+1)+" a0=''", api.ErrFull)
	refusedTag(t, "a"+attributes(2*api.MaxKids)+" a199=''", api.ErrTwice)
}

func TestP6_1Twice(t *testing.T) {
	for _, tag := range []string{
		"a b='1' b='1'", "a b='1' c='2' b='3'", "a xmlns='u' xmlns='u'", "a xmlns='u' b='' xmlns=''", "a xmlns:p='u' xmlns:p='v'", "a xml:b='1' xml:b='2'", "a xmlns:p='u' p:b='1' p:b='2'",
		"a xmlns:p='u' xmlns:q='u' p:b='1' q:b='2'", "a xmlns:p='u' p:b='1' c='' d='' q:b='2' xmlns:q='u'", "a xmlns:p='http://www.w3.org/XML/1998/namespace' p:b='1' xml:b='2'",
		// Names that are written twice come ahead of prefixes.
		"p:a b='1' b='2'", "a p:b='1' p:b='2'", "a xmlns:p='' xmlns:p=''", "a xmlns:xml='' b='' b=''", "a xmlns:xmlns='u' xmlns:xmlns='u'",
	} {
		refusedTag(t, tag, api.ErrTwice)
	}
	refused(t, "<a xmlns:p='u'><b xmlns:q='u' p:c='1' q:c='2'/></a>", 15, api.ErrTwice)
	parsed(t, "<a xmlns:p='u' xmlns:q='v' b='1' p:b='2' q:b='3' xml:b='4' B='5'/>", api.Element{Name: "a", Attrs: []api.Pair{
		{Name: "b", Value: "1"}, {Space: "u", Name: "b", Value: "2"}, {Space: "v", Name: "b", Value: "3"}, {Space: "http://www.w3.org/XML/1998/namespace", Name: "b", Value: "4"}, {Name: "B", Value: "5"},
	}})
	// The namespace of elements without a prefix is not that of attributes.
	parsed(t, "<a xmlns='u' xmlns:p='u' b='1' p:b='2'/>", api.Element{Space: "u", Name: "a", Attrs: []api.Pair{{Name: "b", Value: "1"}, {Space: "u", Name: "b", Value: "2"}}})
	parsed(t, "<a b='1'><a b='1'/></a>", api.Element{Name: "a", Attrs: []api.Pair{{Name: "b", Value: "1"}}, Kids: []api.Element{{Name: "a", Attrs: []api.Pair{{Name: "b", Value: "1"}}}}})
}

func TestP6_1Prefixes(t *testing.T) {
	for _, tag := range []string{
		"a xmlns:p=''", "a xmlns:p='u' xmlns:q=''", "a xmlns:xml='u'", "a xmlns:xml='http://www.w3.org/XML/1998/namespace'", "a xmlns:xmlns='u'", "a xmlns:xmlns='http://www.w3.org/2000/xmlns/'", "a xmlns:xml=''", "a xmlns:xmlns=''",
		"p:a", "a p:b='1'", "xmlns:a", "p:a xmlns='u'", "a p:b='' xmlns:q='u'", "P:a xmlns:p='u'", "xmlns:a xmlns:p='u' xmlns='v'", "a xmlns='u' p:xmlns='v'", "p:a xmlns='p'",
		// Prefixes come ahead of names that are equal by their namespaces.
		"a xmlns:p='u' xmlns:q='u' p:b='1' q:b='2' r:b='3'", "r:a xmlns:p='u' xmlns:q='u' p:b='1' q:b='2'", "a xmlns:r='' xmlns:p='u' xmlns:q='u' p:b='1' q:b='2'",
	} {
		refusedTag(t, tag, api.ErrSpace)
	}
	// A declaration ends with its element.
	refused(t, "<a><b xmlns:p='u'/><p:c/></a>", 19, api.ErrSpace)
	refused(t, "<a><b xmlns:p='u'></b><c p:d=''/></a>", 22, api.ErrSpace)
	refused(t, "<a xmlns:q='u'><b xmlns:p='u'><q:c/></b><p:c/></a>", 40, api.ErrSpace)
	refused(t, "<a xmlns:p='u'><b xmlns:p=''/></a>", 15, api.ErrSpace)
	parsed(t, "<a xmlns:p='u'><b><p:c/></b></a>", named("a", named("b", api.Element{Space: "u", Name: "c"})))
}

func TestP6_1Memory(t *testing.T) {
	doc := []byte("<a b='1'> x <c d='2'/> </a>")
	before := string(doc)
	e, _, err := Parse(doc)
	if err != api.OK || string(doc) != before {
		t.Fatal("the argument was modified", err)
	}
	for i := range doc {
		doc[i] = 'z'
	}
	if want := (api.Element{Name: "a", Attrs: []api.Pair{{Name: "b", Value: "1"}}, Text: " x  ", Kids: []api.Element{{Name: "c", Attrs: []api.Pair{{Name: "d", Value: "2"}}}}}); !same(e, want) {
		t.Fatalf("the element shares memory: %+v", e)
	}
	twins, _, _ := Parse([]byte("<a><b c='1'><d/></b><b c='1'><d/></b></a>"))
	first := &twins.Kids[0]
	first.Attrs[0].Value = "2"
	first.Kids[0].Name = "e"
	_ = append(first.Attrs, api.Pair{Name: "f"})
	_ = append(first.Kids, named("f"))
	if !same(twins.Kids[1], api.Element{Name: "b", Attrs: []api.Pair{{Name: "c", Value: "1"}}, Kids: []api.Element{named("d")}}) {
		t.Fatalf("two lists share memory: %+v", twins)
	}
}
