package xmltree

import (
	"reflect"
	"strconv"
	"strings"
	"testing"

	"dossier/api"
)

const (
	ofXML   = "http://www.w3.org/XML/1998/namespace"
	ofXMLNS = "http://www.w3.org/2000/xmlns/"
)

func with(attrs ...api.Pair) api.Element { return api.Element{Name: "a", Attrs: attrs} }

func writes(t *testing.T, e api.Element, want string) {
	t.Helper()
	got, err := Write(e)
	if err != api.OK || string(got) != want || !Can(e) {
		t.Errorf("%+v is written as %q, error %d, want %q", e, got, err, want)
	}
	parsed(t, want, e)
}

// unwritable checks that an element cannot be written: neither as a root nor within others.
func unwritable(t *testing.T, e api.Element) {
	t.Helper()
	for _, x := range []api.Element{e, named("x", e), named("x", named("y"), named("z", e))} {
		got, err := Write(x)
		if Can(x) || err != api.ErrArg || len(got) != 0 {
			t.Errorf("%.200q: Can %t, Write %q, error %d", x, Can(x), got, err)
		}
	}
}

func TestP6_2Example(t *testing.T) {
	writes(t, named("a"), "<a/>")
}

func TestP6_2Write(t *testing.T) {
	writes(t, api.Element{Name: "a", Text: "x"}, "<a>x</a>")
	writes(t, api.Element{Name: "a", Text: " "}, "<a> </a>")
	writes(t, named("a", named("b")), "<a><b/></a>")
	writes(t, api.Element{Name: "a", Text: "x", Kids: []api.Element{named("b"), {Name: "c", Text: "y"}, named("b")}}, "<a>x<b/><c>y</c><b/></a>")
	writes(t, api.Element{Name: "a", Attrs: []api.Pair{}, Kids: []api.Element{}}, "<a/>")
	writes(t, with(api.Pair{Name: "c", Value: "1"}, api.Pair{Name: "b"}), `<a c="1" b=""/>`)
	writes(t, with(api.Pair{Space: ofXML, Name: "b", Value: "1"}, api.Pair{Name: "b", Value: "2"}), `<a xml:b="1" b="2"/>`)
	writes(t, with(api.Pair{Name: "b", Value: "1"}, api.Pair{Space: "u", Name: "b", Value: "2"}, api.Pair{Space: ofXML, Name: "c"}, api.Pair{Space: "v", Name: "b"}, api.Pair{Space: "u", Name: "c"}),
		`<a xmlns:n1="u" xmlns:n3="v" xmlns:n4="u" b="1" n1:b="2" xml:c="" n3:b="" n4:c=""/>`)
	writes(t, with(api.Pair{Space: "u", Name: "xmlns", Value: "1"}, api.Pair{Space: ofXML, Name: "xmlns"}), `<a xmlns:n0="u" n0:xmlns="1" xml:xmlns=""/>`)
	writes(t, named("xmlns", named("xml")), "<xmlns><xml/></xmlns>")
}

func TestP6_2WriteNamespaces(t *testing.T) {
	in := func(space, name string, kids ...api.Element) api.Element {
		return api.Element{Space: space, Name: name, Kids: kids}
	}
	writes(t, in("u", "a"), `<a xmlns="u"/>`)
	writes(t, in("u", "a", in("u", "b"), in("", "c", in("", "d"), in("u", "d")), in("v", "e"), in("u", "f")),
		`<a xmlns="u"><b/><c xmlns=""><d/><d xmlns="u"/></c><e xmlns="v"/><f/></a>`)
	writes(t, api.Element{Space: "u", Name: "a", Attrs: []api.Pair{{Space: "u", Name: "b", Value: "1"}, {Name: "b"}}}, `<a xmlns="u" xmlns:n0="u" n0:b="1" b=""/>`)
	writes(t, named("a", api.Element{Space: "u", Name: "b", Attrs: []api.Pair{{Space: "v", Name: "c"}}}), `<a><b xmlns="u" xmlns:n0="v" n0:c=""/></a>`)
}

func TestP6_2WriteEscapes(t *testing.T) {
	s := "<&>\"'\t\n\r ]]>\u00e9"
	w := "&lt;&amp;&gt;&quot;'&#9;&#10;&#13; ]]&gt;\u00e9"
	writes(t, api.Element{Space: s, Name: "a", Text: s, Attrs: []api.Pair{{Name: "b", Value: s}, {Space: s, Name: "c", Value: s}}},
		`<a xmlns="`+w+`" xmlns:n1="`+w+`" b="`+w+`" n1:c="`+w+`">`+w+`</a>`)
}

func TestP6_2CannotNames(t *testing.T) {
	for _, name := range []string{"", "1", "p:a", ":", "a b", "a>", "\xff", "-a", "\u00b7"} {
		unwritable(t, named(name))
		unwritable(t, with(api.Pair{Name: name}))
		unwritable(t, with(api.Pair{Space: "u", Name: name}))
		unwritable(t, with(api.Pair{Space: ofXML, Name: name}, api.Pair{Name: "b"}))
	}
	unwritable(t, with(api.Pair{Name: "b"}, api.Pair{Name: "xmlns", Value: "u"}))
	unwritable(t, with(api.Pair{Name: "xmlns"}))
}

func TestP6_2CannotTwice(t *testing.T) {
	for _, space := range []string{"", "u", ofXML} {
		p, q, r := api.Pair{Space: space, Name: "b", Value: "1"}, api.Pair{Space: space, Name: "b", Value: "2"}, api.Pair{Space: "v", Name: "b"}
		unwritable(t, with(p, p))
		unwritable(t, with(p, q))
		unwritable(t, with(r, p, api.Pair{Name: "c"}, q))
		if e := with(p, r, api.Pair{Space: space, Name: "B"}); !Can(e) {
			t.Errorf("%+v can be written", e)
		}
	}
	if e := named("a", with(api.Pair{Name: "b"}), with(api.Pair{Name: "b"})); !Can(e) {
		t.Errorf("%+v can be written", e)
	}
}

func TestP6_2CannotCharacters(t *testing.T) {
	for _, s := range []string{"\x00", "a\x0bb", "\ufffe", "\xff", "\u00e9\xc3", "\xed\xa0\x80"} {
		unwritable(t, api.Element{Name: "a", Text: s})
		unwritable(t, api.Element{Name: "a", Space: s})
		unwritable(t, api.Element{Name: "a", Text: s, Kids: []api.Element{named("b")}})
		unwritable(t, with(api.Pair{Name: "b", Value: s}))
		unwritable(t, with(api.Pair{Name: "b"}, api.Pair{Space: s, Name: "b"}))
	}
	for _, s := range []string{"\t\n\r ", "\u00e9\ufffd\U0010ffff"} {
		if e := (api.Element{Name: "a", Space: s, Text: s, Attrs: []api.Pair{{Space: s, Name: "b", Value: s}}}); !Can(e) {
			t.Errorf("%+v can be written", e)
		}
	}
}

func TestP6_2CannotNamespaces(t *testing.T) {
	unwritable(t, api.Element{Space: ofXML, Name: "a"})
	unwritable(t, api.Element{Space: ofXMLNS, Name: "a"})
	unwritable(t, with(api.Pair{Space: ofXMLNS, Name: "b"}))
	unwritable(t, with(api.Pair{Name: "b"}, api.Pair{Space: ofXMLNS, Name: "b"}))
	// Other namespaces look alike only.
	writes(t, api.Element{Space: ofXML + "/", Name: "a"}, `<a xmlns="`+ofXML+`/"/>`)
	writes(t, api.Element{Space: strings.TrimSuffix(ofXMLNS, "/"), Name: "a"}, `<a xmlns="http://www.w3.org/2000/xmlns"/>`)
}

func TestP6_2CannotBlankText(t *testing.T) {
	for _, s := range []string{" ", "\n", "\t\r\n "} {
		unwritable(t, api.Element{Name: "a", Text: s, Kids: []api.Element{named("b")}})
		if e := (api.Element{Name: "a", Text: s}); !Can(e) {
			t.Errorf("%+v can be written", e)
		}
	}
	for _, s := range []string{"", " x", "\u00a0", "\u2028"} {
		if e := (api.Element{Name: "a", Text: s, Kids: []api.Element{named("b")}}); !Can(e) {
			t.Errorf("%+v can be written", e)
		}
	}
}

// tower is an element of so many levels.
func tower(levels int) api.Element {
	e := named("a")
	for range levels - 1 {
		e = named("a", e)
	}
	return e
}

func TestP6_2Limits(t *testing.T) {
	writes(t, tower(api.MaxDepth), strings.Repeat("<a>", api.MaxDepth-1)+"<a/>"+strings.Repeat("</a>", api.MaxDepth-1))
	unwritable(t, tower(api.MaxDepth+1))
	unwritable(t, tower(1<<16))
	wide := tower(api.MaxDepth - 1)
	wide.Kids = append(wide.Kids, named("b"), tower(api.MaxDepth-1))
	if !Can(wide) {
		t.Error("two towers side by side")
	}
	wide.Kids = append(wide.Kids, tower(api.MaxDepth))
	unwritable(t, wide)

	writes(t, named("a", repeated(named("b"), api.MaxKids)...), "<a>"+strings.Repeat("<b/>", api.MaxKids)+"</a>")
	unwritable(t, named("a", repeated(named("b"), api.MaxKids+1)...))

	var attrs []api.Pair
	for i := range api.MaxKids {
		attrs = append(attrs, api.Pair{Space: "u", Name: "b" + strconv.Itoa(i)})
	}
	e := api.Element{Space: "u", Name: "a", Attrs: attrs}
	b, err := Write(e)
	if err != api.OK {
		t.Fatal(err)
	}
	parsed(t, string(b), e)
	unwritable(t, api.Element{Name: "a", Attrs: append(attrs, api.Pair{Name: "b"})})
}

func TestP6_2TooLong(t *testing.T) {
	full := func(e api.Element) {
		t.Helper()
		if b, err := Write(e); err != api.ErrFull || len(b) != 0 || !Can(e) {
			t.Errorf("%d bytes, error %d", len(b), err)
		}
	}
	x := func(n int) string { return strings.Repeat("x", n) }
	writes(t, api.Element{Name: "a", Text: x(api.MaxText - 7)}, "<a>"+x(api.MaxText-7)+"</a>")
	full(api.Element{Name: "a", Text: x(api.MaxText - 6)})
	full(api.Element{Name: "a", Text: x(api.MaxText)})
	full(api.Element{Name: "a", Text: x(5 * api.MaxText)})
	full(api.Element{Name: "a", Text: x(api.MaxText + 1), Kids: repeated(named("b"), 5)})
	writes(t, named(x(api.MaxText-3)), "<"+x(api.MaxText-3)+"/>")
	full(named(x(api.MaxText - 2)))
	full(named(x(api.MaxText - 1)))
	writes(t, with(api.Pair{Name: "b", Value: x(api.MaxText - 9)}), `<a b="`+x(api.MaxText-9)+`"/>`)
	full(with(api.Pair{Name: "b", Value: x(api.MaxText - 8)}))
	full(with(api.Pair{Space: "u", Name: "b", Value: x(api.MaxText - 24)}))
	full(api.Element{Space: x(api.MaxText + 1), Name: "a"})
	// What counts are the bytes that are written.
	n := (api.MaxText - 7) / 5
	writes(t, api.Element{Name: "a", Text: strings.Repeat("&", n) + x(api.MaxText-7-5*n)}, "<a>"+strings.Repeat("&amp;", n)+x(api.MaxText-7-5*n)+"</a>")
	full(api.Element{Name: "a", Text: strings.Repeat("&", n+1)})
	full(named("a", repeated(named("b", repeated(api.Element{Name: "c", Text: "yy"}, 100)...), 80)...))
	// An element that cannot be written is not too long, but wrong.
	unwritable(t, api.Element{Name: "a", Text: x(2 * api.MaxText), Kids: []api.Element{named("")}})
}

func TestP6_2Memory(t *testing.T) {
	e := api.Element{Name: "a", Attrs: make([]api.Pair, 1, 5), Kids: make([]api.Element, 1, 5)}
	e.Attrs[0], e.Kids[0] = api.Pair{Space: "u", Name: "b"}, named("c")
	first, _ := Write(e)
	second, _ := Write(e)
	for i := range first {
		first[i] = 'z'
	}
	if string(second) != `<a xmlns:n0="u" n0:b=""><c/></a>` {
		t.Errorf("two results share memory: %q", second)
	}
	if !reflect.DeepEqual(e.Attrs[:5], []api.Pair{{Space: "u", Name: "b"}, {}, {}, {}, {}}) || !reflect.DeepEqual(e.Kids[:5], []api.Element{named("c"), {}, {}, {}, {}}) {
		t.Errorf("the argument was modified: %+v", e)
	}
}

func TestP6_3Get(t *testing.T) {
	e := with(api.Pair{Space: "u", Name: "b", Value: "1"}, api.Pair{Name: "b", Value: "2"}, api.Pair{Name: "b", Value: "3"}, api.Pair{Name: "c"}, api.Pair{Space: "u", Name: "d", Value: "4"})
	e.Kids = []api.Element{with(api.Pair{Name: "k", Value: "5"})}
	for _, x := range []struct {
		name, want string
		is         bool
	}{{"b", "2", true}, {"c", "", true}, {"d", "", false}, {"k", "", false}, {"B", "", false}, {"", "", false}} {
		if got, is := Get(e, x.name); got != x.want || is != x.is {
			t.Errorf("Get(%q) = %q, %t", x.name, got, is)
		}
	}
	if got, is := Get(api.Element{}, "b"); got != "" || is {
		t.Error("no attributes", got, is)
	}
	if got, is := Get(with(api.Pair{Value: "1"}), ""); got != "1" || !is {
		t.Error("a hand-made attribute without a name", got, is)
	}
}

func TestP6_3Sub(t *testing.T) {
	in := func(space, name, text string, kids ...api.Element) api.Element {
		return api.Element{Space: space, Name: name, Text: text, Kids: kids}
	}
	e := named("a", in("u", "b", "1"), in("", "b", "2"), in("u", "c", "3", in("u", "b", "4")), in("u", "b", "5", in("u", "b", "6")))
	for _, x := range []struct {
		space, name string
		want        []api.Element
	}{
		{"u", "b", []api.Element{in("u", "b", "1"), in("u", "b", "5", in("u", "b", "6"))}},
		{"", "b", []api.Element{in("", "b", "2")}},
		{"u", "c", []api.Element{in("u", "c", "3", in("u", "b", "4"))}},
		{"", "c", nil}, {"v", "b", nil}, {"u", "a", nil}, {"", "a", nil}, {"", "", nil},
	} {
		if got := Sub(e, x.space, x.name); !same(named("", got...), named("", x.want...)) {
			t.Errorf("Sub(%q, %q) = %+v", x.space, x.name, got)
		}
	}
	if got := Sub(api.Element{}, "", ""); len(got) != 0 {
		t.Error("no kids", got)
	}
}

func TestP6_3Memory(t *testing.T) {
	kid := func() api.Element {
		return api.Element{Name: "b", Attrs: []api.Pair{{Name: "c", Value: "1"}}, Kids: []api.Element{{Name: "d", Attrs: []api.Pair{{Name: "e"}}, Kids: []api.Element{named("f")}}}}
	}
	e := named("a", kid(), kid())
	got := Sub(e, "", "b")
	change := func(l []api.Element) {
		l[0].Name = "z"
		l[0].Attrs[0].Value = "z"
		l[0].Kids[0].Attrs[0].Name = "z"
		l[0].Kids[0].Kids[0].Text = "z"
		_ = append(l[0].Kids[:0], named("y"))
		_ = append(l[0].Attrs[:0], api.Pair{Name: "y"})
	}
	change(got)
	if !same(e, named("a", kid(), kid())) {
		t.Errorf("a result shares memory with the argument: %+v", e)
	}
	again := Sub(e, "", "b")
	change(e.Kids)
	if !same(named("a", again...), named("a", kid(), kid())) {
		t.Errorf("an argument shares memory with the result: %+v", again)
	}
	spare := append(make([]api.Element, 0, 9), kid(), kid())
	_ = append(Sub(api.Element{Kids: spare}, "", "b"), named("y"))
	if !reflect.DeepEqual(spare[:9][2:], make([]api.Element, 7)) {
		t.Error("spare capacity is shared")
	}
}

func TestP6_3DeepElements(t *testing.T) {
	if got := Sub(tower(1<<16), "", "a"); len(got) != 1 || len(got[0].Kids) != 1 {
		t.Error(len(got))
	}
}
