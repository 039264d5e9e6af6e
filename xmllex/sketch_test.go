package xmllex

import (
	"math/big"
	"reflect"
	"regexp"
	"strings"
	"testing"

	"dossier/api"
)

// The sketch is a tokenizer of regular expressions, for names of a few characters.

const (
	blanks = `[\t\n\r ]`
	plain  = `[A-Za-z_\x{e9}][A-Za-z_\x{e9}0-9.\-\x{b7}]*`
	joined = plain + `(?::` + plain + `)?`
)

var (
	comment     = regexp.MustCompile(`^<!--(?:[^\-]|-[^\-])*-->`)
	instruction = regexp.MustCompile(`^<\?` + plain + `(?:\?>|` + blanks + `(?s:.*?)\?>)`)
	section     = regexp.MustCompile(`^<!\[CDATA\[((?s:.*?))\]\]>`)
	closing     = regexp.MustCompile(`^</(` + joined + `)` + blanks + `*>`)
	begin       = regexp.MustCompile(`^<(` + joined + `)`)
	attribute   = regexp.MustCompile(`^` + blanks + `+(` + joined + `)` + blanks + `*=` + blanks + `*("[^"<]*"|'[^'<]*')`)
	finish      = regexp.MustCompile(`^` + blanks + `*(/?)>`)
	data        = regexp.MustCompile(`^[^<]+`)
	ampersand   = regexp.MustCompile(`&(?:(lt|gt|amp|apos|quot)|#([0-9]+)|#x([0-9A-Fa-f]+));|&`)
)

// stands is what a reference stands for, "" if for nothing.
func stands(ref string) string {
	m := ampersand.FindStringSubmatch(ref)
	digits, base := m[2], 10
	if m[3] != "" {
		digits, base = m[3], 16
	}
	n, is := new(big.Int).SetString(digits, base)
	if !is {
		return map[string]string{"lt": "<", "gt": ">", "amp": "&", "apos": "'", "quot": "\""}[m[1]]
	}
	for _, span := range [][2]int64{{9, 10}, {13, 13}, {32, 0xd7ff}, {0xe000, 0xfffd}, {0x10000, 0x10ffff}} {
		if n.Cmp(big.NewInt(span[0])) >= 0 && n.Cmp(big.NewInt(span[1])) <= 0 {
			return string(rune(n.Int64()))
		}
	}
	return ""
}

// read is raw text with its references resolved, and the offset of the first one that stands for nothing, or -1.
func read(raw string, value bool) (string, int) {
	for _, at := range ampersand.FindAllStringIndex(raw, -1) {
		if stands(raw[at[0]:at[1]]) == "" {
			return "", at[0]
		}
	}
	out, last := "", 0
	ends := regexp.MustCompile("\r\n?")
	tame := func(s string) string {
		s = ends.ReplaceAllString(s, "\n")
		if value {
			s = regexp.MustCompile("[\t\n]").ReplaceAllString(s, " ")
		}
		return s
	}
	for _, at := range ampersand.FindAllStringIndex(raw, -1) {
		out += tame(raw[last:at[0]]) + stands(raw[at[0]:at[1]])
		last = at[1]
	}
	return out + tame(raw[last:]), -1
}

func sketchSkip(doc string, at int) (int, api.Errno) {
	for {
		rest := doc[at:]
		size := len(comment.FindString(rest)) + len(instruction.FindString(rest))
		if size == 0 {
			if strings.HasPrefix(rest, "<!--") || strings.HasPrefix(rest, "<?") {
				return at, api.ErrMark
			}
			return at, api.OK
		}
		at += size
	}
}

func sketchTag(rest string) (api.Token, int, api.Errno) {
	m := begin.FindStringSubmatch(rest)
	if m == nil {
		return api.Token{}, 0, api.ErrMark
	}
	t := api.Token{Kind: api.TokOpen, Name: m[1]}
	at := len(m[0])
	for {
		if m := finish.FindStringSubmatch(rest[at:]); m != nil {
			t.Empty = m[1] != ""
			return t, at + len(m[0]), api.OK
		}
		m := attribute.FindStringSubmatch(rest[at:])
		if m == nil {
			return api.Token{}, 0, api.ErrMark
		}
		value, bad := read(m[2][1:len(m[2])-1], true)
		if bad >= 0 {
			return api.Token{}, 0, api.ErrEntity
		}
		t.Attrs = append(t.Attrs, api.Attr{Name: m[1], Value: value})
		at += len(m[0])
	}
}

func sketchText(rest string) (api.Token, int, api.Errno) {
	raw := data.FindString(rest)
	if strings.Contains(raw, "]]>") {
		return api.Token{}, 0, api.ErrMark
	}
	text, bad := read(raw, false)
	if bad >= 0 {
		return api.Token{}, 0, api.ErrEntity
	}
	return api.Token{Kind: api.TokText, Text: text}, len(raw), api.OK
}

func sketchPiece(rest string) (api.Token, int, api.Errno) {
	switch {
	case rest == "":
		return api.Token{}, 0, api.OK
	case rest[0] != '<':
		return sketchText(rest)
	case strings.HasPrefix(rest, "<!DOCTYPE"):
		return api.Token{}, 0, api.ErrType
	}
	if m := section.FindStringSubmatch(rest); m != nil {
		return api.Token{Kind: api.TokText, Text: regexp.MustCompile("\r\n?").ReplaceAllString(m[1], "\n")}, len(m[0]), api.OK
	}
	if m := closing.FindStringSubmatch(rest); m != nil {
		return api.Token{Kind: api.TokClose, Name: m[1]}, len(m[0]), api.OK
	}
	return sketchTag(rest)
}

func sketchNext(doc string, at int) (api.Token, int, api.Errno) {
	from, err := sketchSkip(doc, at)
	if err != api.OK {
		return api.Token{}, from, err
	}
	t, size, err := sketchPiece(doc[from:])
	return t, from + size, err
}

// compare checks Next, Skip and Unescape at an offset against the sketch, and the promise on offsets.
func compare(t *testing.T, doc string, at int) {
	t.Helper()
	got, next, err := Next([]byte(doc), at)
	want, wantNext, wantErr := sketchNext(doc, at)
	if !same(got, want) || next != wantNext || err != wantErr {
		t.Fatalf("Next(%q, %d) = %+v, %d, error %d, want %+v, %d, error %d", doc, at, got, next, err, want, wantNext, wantErr)
	}
	if next < at || err == api.OK && next == at && got.Kind != api.TokEnd {
		t.Fatalf("Next(%q, %d) returns the offset %d", doc, at, next)
	}
	end, err := Skip([]byte(doc), at)
	if wantEnd, wantErr := sketchSkip(doc, at); end != wantEnd || err != wantErr {
		t.Fatalf("Skip(%q, %d) = %d, error %d, want %d, error %d", doc, at, end, err, wantEnd, wantErr)
	}
	s, bad, err := Unescape([]byte(doc[at:]))
	wantText, wantBad := read(doc[at:], false)
	if err == api.OK && (wantBad >= 0 || bad != 0 || s != wantText) || err != api.OK && (err != api.ErrEntity || bad != wantBad || s != "") {
		t.Fatalf("Unescape(%q) = %q, %d, error %d, want %q, %d", doc[at:], s, bad, err, wantText, wantBad)
	}
}

func pieces() []string {
	return []string{
		"<", "</", ">", "/>", "/", "<!--", "--", "-->", "-", "<?", "?>", "?", "<![CDATA[", "]]>", "]", "<!DOCTYPE", "<!", "a", "b:c", ":", "1", ".", "\u00e9", "\u00b7", "=", "'", "\"", " ", "\t", "\r", "\n", "&", "lt;", "&lt;", "&#", "10;", "x41;", ";", "\xff", "\x00",
	}
}

func TestP5_1ShortDocuments(t *testing.T) {
	leads := []string{"", "<a", "<a b", "<a b=", "<a b='", "</a", "<!--", "<?a", "<![CDATA[", "&", "&#", "a]", "<!----><?p?>"}
	for _, lead := range leads {
		for _, a := range pieces() {
			for _, b := range pieces() {
				compare(t, lead+a+b, 0)
				for _, c := range pieces() {
					if lead == "" || lead == "<a" || lead == "<a b='" {
						compare(t, lead+a+b+c, 0)
					}
				}
			}
		}
	}
}

// dice is a short row of numbers that look like chance and are the same at each run.
type dice uint64

func (d *dice) roll(n int) int {
	*d = *d*6364136223846793005 + 1442695040888963407
	return int(*d>>33) % n
}

func (d *dice) pick(l ...string) string { return l[d.roll(len(l))] }

func (d *dice) blanks(least int) string {
	s := ""
	for range least + d.roll(3)/2 {
		s += d.pick(" ", "\t", "\r", "\n", "\r\n")
	}
	return s
}

func (d *dice) text(without string) string {
	s := ""
	for range d.roll(6) {
		s += d.pick("x", " ", "\r", "\n", "\t", "&lt;", "&#10;", "&#xD;", "&amp;", "]", ">", "'", "\"", "\u00e9", "<", "--")
	}
	for _, x := range without {
		s = strings.ReplaceAll(s, string(x), "")
	}
	return s
}

func (d *dice) name() string { return d.pick("a", "b", "a:b", "_1", "\u00e9-.\u00b7", "xml:a") }

// piece is a valid part of a document.
func (d *dice) piece() string {
	switch d.roll(7) {
	case 0:
		return "<!--" + d.text("-") + "-->"
	case 1:
		return "<?a" + d.pick("", " "+d.text(">"), "\n") + "?>"
	case 2:
		return "<![CDATA[" + d.text("]") + "]]>"
	case 3:
		return "</" + d.name() + d.blanks(0) + ">"
	case 4:
		return d.text("<]")
	}
	s := "<" + d.name()
	for range d.roll(4) {
		q := d.pick("'", "\"")
		s += d.blanks(1) + d.name() + d.blanks(0) + "=" + d.blanks(0) + q + d.text("<"+q) + q
	}
	return s + d.blanks(0) + d.pick(">", "/>")
}

func TestP5_4RandomDocuments(t *testing.T) {
	d := dice(5)
	for range 4000 {
		doc := ""
		for range 1 + d.roll(4) {
			doc += d.piece()
		}
		for range d.roll(3) {
			at := d.roll(len(doc) + 1)
			cut := at + d.roll(len(doc)-at+1)%3
			doc = doc[:at] + d.pick("", d.pick(pieces()...)) + doc[cut:]
		}
		for at := range len(doc) + 1 {
			compare(t, doc, at)
		}
	}
}

func TestP5_1SketchAgrees(t *testing.T) {
	if got, next, err := sketchNext("<!-- --><?p?><a b='1'/>", 0); err != api.OK || next != 23 || !reflect.DeepEqual(got, empty("a", "b", "1")) {
		t.Fatal(got, next, err)
	}
}
