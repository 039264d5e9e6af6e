package xmltree

import (
	"strconv"
	"strings"
	"testing"

	"dossier/api"
)

// dice is a short row of numbers that look like chance and are the same at each run.
type dice uint64

func (d *dice) roll(n int) int {
	*d = *d*6364136223846793005 + 1442695040888963407
	return int(*d>>33) % n
}

func (d *dice) pick(l ...string) string { return l[d.roll(len(l))] }

func (d *dice) text() string {
	s := ""
	for range d.roll(5) {
		s += d.pick(" ", "\n", "\r", "\t", "<", ">", "&", "\"", "'", "x", "]]>", "&lt;", "\u00e9")
	}
	return s
}

func (d *dice) space() string { return d.pick("", "", "u", "v", "u&<\"\r", ofXML+"x") }

// element is one that can be written.
func (d *dice) element(levels int) api.Element {
	e := api.Element{Space: d.space(), Name: d.pick("a", "b", "xmlns", "xml", "n0", "\u00e9"), Text: d.text()}
	for i := range d.roll(4) {
		e.Attrs = append(e.Attrs, api.Pair{Space: d.pick(d.space(), ofXML), Name: d.pick("a", "n", "xml") + strconv.Itoa(i), Value: d.text()})
	}
	if levels > 1 {
		for range d.roll(4) {
			e.Kids = append(e.Kids, d.element(levels-1))
		}
	}
	if len(e.Kids) > 0 && strings.Trim(e.Text, " \t\r\n") == "" {
		e.Text = ""
	}
	return e
}

func TestP6_4ParseOfWrite(t *testing.T) {
	d := dice(6)
	for range 8000 {
		e := d.element(4)
		b, err := Write(e)
		if err != api.OK {
			t.Fatalf("%+v: error %d", e, err)
		}
		if got, at, err := Parse(b); err != api.OK || at != 0 || !same(got, e) {
			t.Fatalf("%q: %+v, %d, error %d, want %+v", b, got, at, err, e)
		}
	}
}

// scribe writes an element in one of many ways, with prefixes as they come.
type scribe struct{ *dice }

func (d scribe) blanks() string { return d.pick("", "", " ", "\n", "\t\r\n") }

func (d scribe) void() string { return d.pick("", "", "", "<!-- <a> -->", "<?p <a>?>", "<!----><?p?>") }

// reference is a character that does not stand for itself.
func (d scribe) reference(r rune) string {
	return d.pick("&#"+strconv.Itoa(int(r))+";", "&#x"+strconv.FormatInt(int64(r), 16)+";", "&#x0"+strings.ToUpper(strconv.FormatInt(int64(r), 16))+";")
}

func (d scribe) value(s string) string {
	q := d.pick("'", "\"")
	out := q
	for _, r := range s {
		switch {
		case r == ' ':
			out += d.pick(" ", "\t", "\n", "&#32;") // a line end of two bytes would be one blank, too
		case r == '&' || r == '<' || r == '\t' || r == '\n' || r == '\r' || string(r) == q || d.roll(4) == 0:
			out += d.reference(r)
		default:
			out += string(r)
		}
	}
	return out + q
}

func (d scribe) content(s string) string {
	out := ""
	for _, r := range s {
		switch {
		case r == '&' || r == '<' || r == '>' || r == '\r' || d.roll(4) == 0:
			out += d.pick(d.reference(r), d.reference(r), d.section(r))
		case r == '\n':
			out += d.pick("\n", "\r\n", "<![CDATA[\r]]>", "&#10;")
		default:
			out += string(r)
		}
		out += d.void()
	}
	return out
}

func (d scribe) section(r rune) string {
	if r == '\r' {
		return "&#xd;"
	}
	return "<![CDATA[" + string(r) + "]]>"
}

func (d scribe) document(e api.Element) string {
	around := func() string { return d.void() + d.pick("", "\n", " ", "&#9;", "<![CDATA[]]>") + d.void() }
	return around() + d.element(e, "", map[string]string{}) + around()
}

// element writes e where unnamed is the namespace without a prefix and known are those of prefixes.
func (d scribe) element(e api.Element, unnamed string, known map[string]string) string {
	var decls, attrs []string
	inner := map[string]string{}
	for p, space := range known {
		inner[p] = space
	}
	count := 0
	prefix := func(space string) string {
		if space == ofXML {
			return "xml"
		}
		for _, p := range []string{"p0", "p1", "p2", "p3"} {
			if inner[p] == space && d.roll(3) > 0 {
				return p
			}
		}
		// Each prefix is declared once at most; none that the element itself may use already is declared anew.
		p := "q" + strconv.Itoa(len(inner)) + "." + strconv.Itoa(count)
		if count < 4 && known["p"+strconv.Itoa(count)] == "" && inner["p"+strconv.Itoa(count)] == "" {
			p = "p" + strconv.Itoa(count)
		}
		count++
		inner[p] = space
		decls = append(decls, "xmlns:"+p+d.blanks()+"="+d.blanks()+d.value(space))
		return p
	}
	name := e.Name
	if e.Space != "" && d.roll(2) == 0 {
		name = prefix(e.Space) + ":" + name
	} else if e.Space != unnamed || d.roll(4) == 0 {
		unnamed = e.Space
		decls = append(decls, "xmlns="+d.value(e.Space))
	}
	for _, a := range e.Attrs {
		written := a.Name
		if a.Space != "" {
			written = prefix(a.Space) + ":" + written
		}
		attrs = append(attrs, written+d.blanks()+"="+d.blanks()+d.value(a.Value))
	}
	out := "<" + name + d.merged(decls, attrs) + d.blanks()
	if e.Text == "" && len(e.Kids) == 0 && d.roll(2) == 0 {
		return out + "/>"
	}
	return out + ">" + d.inside(e, unnamed, inner) + "</" + name + d.blanks() + ">"
}

// merged are declarations and attributes, each of both in its order.
func (d scribe) merged(decls, attrs []string) string {
	out := ""
	for len(decls)+len(attrs) > 0 {
		l := &attrs
		if len(attrs) == 0 || len(decls) > 0 && d.roll(2) == 0 {
			l = &decls
		}
		out += " " + d.blanks() + (*l)[0]
		*l = (*l)[1:]
	}
	return out
}

// inside is the content: the text is strewn among the kids.
func (d scribe) inside(e api.Element, unnamed string, known map[string]string) string {
	text := []rune(e.Text)
	out := d.void()
	for _, kid := range e.Kids {
		n := d.roll(len(text) + 1)
		out += d.content(string(text[:n]))
		text = text[n:]
		if e.Text == "" {
			out += d.blanks()
		}
		out += d.element(kid, unnamed, known) + d.void()
	}
	return out + d.content(string(text))
}

func TestP6_1RandomDocuments(t *testing.T) {
	d := dice(61)
	for range 8000 {
		e := d.element(4)
		doc := scribe{&d}.document(e)
		if got, at, err := Parse([]byte(doc)); err != api.OK || at != 0 || !same(got, e) {
			t.Fatalf("%s\n%+v, %d, error %d, want\n%+v", doc, got, at, err, e)
		}
	}
}

// Whatever is parsed can be written, but for namespaces that only declarations give, and is then the same.
func TestP6_4WriteOfParse(t *testing.T) {
	d := dice(64)
	accepted := 0
	for range 8000 {
		doc := scribe{&d}.document(d.element(3))
		for range d.roll(3) {
			at := d.roll(len(doc) + 1)
			cut := at + d.roll(len(doc)-at+1)%4
			doc = doc[:at] + d.pick("", "", "<", ">", "/", "a", ":", "'", "p0:", " xmlns='w'", "<b/>", "&", "]]>", "\x01") + doc[cut:]
		}
		e, at, err := Parse([]byte(doc))
		if err != api.OK {
			if at < 0 || at > len(doc) || !same(e, api.Element{}) {
				t.Fatalf("%s\n%+v, %d, error %d", doc, e, at, err)
			}
			continue
		}
		accepted++
		b, err := Write(e)
		if err != api.OK {
			t.Fatalf("%s\nis written with error %d", doc, err)
		}
		if again, _, err := Parse(b); err != api.OK || !same(again, e) {
			t.Fatalf("%s\n%+v, error %d, want\n%+v", b, again, err, e)
		}
	}
	if accepted < 2000 {
		t.Error("too few documents were accepted", accepted)
	}
}
