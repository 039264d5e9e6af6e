package repo_test

import (
	"bytes"
	"math"
	"reflect"
	"slices"
	"strconv"
	"strings"
	"testing"

	"dossier/api"
	"dossier/bind"
	"dossier/repo"
	"dossier/show"
)

const head = `<definitions xmlns="http://www.omg.org/spec/CMMN/20151109/MODEL">`

// text is a document, not the printed one, of a model whose plan has some parts.
func text(id, plan string) string {
	return head + `<!-- x --><case id="` + id + `"><casePlanModel id='p'>` + plan + `</casePlanModel></case></definitions>`
}

// alike is a document whose items share a definition: a short one, but a longer one when it is printed.
func alike(id string, items int) string {
	var b strings.Builder
	for k := range items {
		b.WriteString(`<planItem id="i` + strconv.Itoa(k) + `" definitionRef="d"/>`)
	}
	return text(id, b.String()+`<humanTask id="d"/>`)
}

// contents are what the calls tell of a repository.
type contents struct {
	IDs       []string
	Models    []api.Model
	Documents []string
}

func of(t *testing.T, r *repo.Repo) contents {
	t.Helper()
	c := contents{IDs: r.IDs()}
	for _, id := range c.IDs {
		m, is := r.Model(id)
		b, too := r.Document(id)
		if !is || !too {
			t.Fatalf("%s is not there", id)
		}
		c.Models, c.Documents = append(c.Models, m), append(c.Documents, string(b))
	}
	return c
}

// deployed is a repository with some documents.
func deployed(t *testing.T, documents ...string) *repo.Repo {
	t.Helper()
	r := repo.New()
	for _, s := range documents {
		if _, at, err := r.Deploy([]byte(s)); at != 0 || err != api.OK {
			t.Fatal(s, at, err)
		}
	}
	return r
}

// full are documents of as many models as there may be. Their order is none of their IDs'.
func full() []string {
	var l []string
	for k := range api.MaxModels {
		l = append(l, text("m"+strconv.Itoa((k*7+3)%api.MaxModels), `<planItem id="i`+strconv.Itoa(k)+`" definitionRef="d"/><milestone id="d"/>`))
	}
	return l
}

func TestP31_1New(t *testing.T) {
	r := repo.New()
	if r == nil || len(r.IDs()) != 0 {
		t.Fatal(r)
	}
	if m, is := r.Model(""); is || !reflect.DeepEqual(m, api.Model{}) {
		t.Error(m, is)
	}
	if b, is := r.Document(""); is || len(b) != 0 {
		t.Error(b, is)
	}
	deployed(t, full()...)
	if len(repo.New().IDs()) != 0 {
		t.Error("two repositories are one")
	}
}

func TestP31_1Deploy(t *testing.T) {
	r := repo.New()
	for k, id := range []string{"b", "a", "B", "_", strings.Repeat("z", api.MaxName)} {
		got, at, err := r.Deploy([]byte(text(id, "")))
		if got != id || at != 0 || err != api.OK {
			t.Errorf("%s: %q, %d, %v", id, got, at, err)
		}
		if l := r.IDs(); len(l) != k+1 || l[k] != id {
			t.Errorf("%s: %v", id, l)
		}
	}
	if id, at, err := r.Deploy([]byte(alike("most", 50))); id != "most" || at != 0 || err != api.OK {
		t.Error(id, at, err)
	}
}

// faults are texts that are refused, whatever there is in a repository.
func faults() []struct {
	name, text string
	at         int
	err        api.Errno
} {
	return []struct {
		name, text string
		at         int
		err        api.Errno
	}{
		{"nothing", "", 0, api.ErrNest},
		{"no end", "<a>", 3, api.ErrNest},
		{"another element's end", "<a><b></a>", 6, api.ErrNest},
		{"blanks only", strings.Repeat(" ", api.MaxText), api.MaxText, api.ErrNest},
		{"too long", strings.Repeat(" ", api.MaxText+1), 0, api.ErrFull},
		{"no character", " \xff", 1, api.ErrChar},
		{"an unknown entity", "<a>&x;</a>", 3, api.ErrEntity},
		{"a document type", " <!DOCTYPE a><a/>", 1, api.ErrType},
		{"no markup", "<a", 0, api.ErrMark},
		{"another root", "<a/>", 0, api.ErrModel},
		{"no case", head + "</definitions>", 0, api.ErrModel},
		{"no definition", text("m0", `<planItem id="a" definitionRef="d"/>`), 0, api.ErrNone},
		{"a foreign language", text("m0", `<planItem id="a" definitionRef="d"><itemControl><repetitionRule><condition language="x"><body>true</body></condition></repetitionRule></itemControl></planItem><milestone id="d"/>`), 0, api.ErrTongue},
		{"no number", text("m0", `<planItem id="a" definitionRef="d"/><timerEventListener id="d"><timerExpression>x</timerExpression></timerEventListener>`), 0, api.ErrForm},
		{"no name", text("m 0", ""), 0, api.ErrName},
		{"an item twice", text("m0", `<planItem id="a" definitionRef="d"/><planItem id="a" definitionRef="d"/><milestone id="d"/>`), 0, api.ErrTwice},
		{"no rule", text("m0", `<planItem id="a" definitionRef="d"><itemControl><repetitionRule><condition><body>1 +</body></condition></repetitionRule></itemControl></planItem><milestone id="d"/>`), 0, api.ErrParse},
		{"too large when printed", alike("m0", 51), 0, api.ErrFull},
		{"too large when printed, with another ID", alike("other", 51), 0, api.ErrFull},
	}
}

func TestP31_1ErrorsOfTexts(t *testing.T) {
	for name, documents := range map[string][]string{"an empty one": nil, "one with the same ID": {text("m0", "")}, "a full one": full()} {
		r := deployed(t, documents...)
		before := of(t, r)
		for _, f := range faults() {
			id, at, err := r.Deploy([]byte(f.text))
			if id != "" || at != f.at || err != f.err {
				t.Errorf("%s, %s: %q, %d, %v", name, f.name, id, at, err)
			}
			if _, place, err := bind.Read([]byte(f.text)); err != api.OK && (place != at || err != f.err) {
				t.Errorf("%s: bind has %d, %v", f.name, place, err)
			}
		}
		if !reflect.DeepEqual(of(t, r), before) {
			t.Errorf("%s: a text that was refused is in it", name)
		}
	}
}

func TestP31_1PrintedTooLarge(t *testing.T) {
	m, _, err := bind.Read([]byte(alike("m", 51)))
	if err != api.OK {
		t.Fatal(err)
	}
	if _, err := show.Print(m); err != api.ErrFull {
		t.Error(err)
	}
}

func TestP31_1Known(t *testing.T) {
	r := deployed(t, text("m", ""), text("n", ""))
	before := of(t, r)
	for _, s := range []string{text("m", ""), before.Documents[0], before.Documents[1], text("n", `<planItem id="i" definitionRef="d"/><milestone id="d"/>`)} {
		if id, at, err := r.Deploy([]byte(s)); id != "" || at != 0 || err != api.ErrKnown {
			t.Errorf("%s: %q, %d, %v", s, id, at, err)
		}
	}
	if !reflect.DeepEqual(of(t, r), before) {
		t.Error("a model was replaced")
	}
}

func TestP31_1Full(t *testing.T) {
	r := deployed(t, full()...) // the limit itself is allowed
	before := of(t, r)
	if id, at, err := r.Deploy([]byte(text("other", ""))); id != "" || at != 0 || err != api.ErrFull {
		t.Errorf("%q, %d, %v", id, at, err)
	}
	for _, s := range full() {
		if id, at, err := r.Deploy([]byte(s)); id != "" || at != 0 || err != api.ErrKnown {
			t.Errorf("%s: %q, %d, %v", s, id, at, err)
		}
	}
	if !reflect.DeepEqual(of(t, r), before) {
		t.Error("a model that was refused is in it")
	}
}

func TestP31_1AfterAnError(t *testing.T) {
	r := repo.New()
	for _, s := range full() {
		r.Deploy([]byte("<a"))
		r.Deploy([]byte(alike("other", 51)))
		if _, _, err := r.Deploy([]byte(s)); err != api.OK {
			t.Fatal(s, err)
		}
		r.Deploy([]byte(s))
	}
	if !reflect.DeepEqual(of(t, r), of(t, deployed(t, full()...))) {
		t.Error("an error has left something")
	}
}

// unmade are repositories that no call made.
func unmade() []*repo.Repo { return []*repo.Repo{nil, {}, new(repo.Repo)} }

func TestP31_1Unmade(t *testing.T) {
	for _, r := range unmade() {
		for _, s := range []string{"", "<a", text("m", ""), alike("m", 51)} {
			if id, at, err := r.Deploy([]byte(s)); id != "" || at != 0 || err != api.ErrNil {
				t.Errorf("%q, %d, %v", id, at, err)
			}
		}
	}
}

func TestP31_2Unmade(t *testing.T) {
	for _, r := range unmade() {
		r.Deploy([]byte(text("m", "")))
		for _, id := range []string{"", "m"} {
			if m, is := r.Model(id); is || !reflect.DeepEqual(m, api.Model{}) {
				t.Error(m, is)
			}
			if b, is := r.Document(id); is || len(b) != 0 {
				t.Error(b, is)
			}
		}
		if r.IDs() != nil || r.Copy() != nil {
			t.Error(r.IDs(), r.Copy())
		}
	}
}

func TestP31_2Contents(t *testing.T) {
	r := deployed(t, full()...)
	want := contents{}
	for _, s := range full() {
		m, _, err := bind.Read([]byte(s))
		b, also := show.Print(m)
		if err != api.OK || also != api.OK || string(b) == s {
			t.Fatal(s, err, also)
		}
		want.IDs, want.Models, want.Documents = append(want.IDs, m.ID), append(want.Models, m), append(want.Documents, string(b))
	}
	if got := of(t, r); !reflect.DeepEqual(got, want) {
		t.Errorf("%v\n%v", got, want)
	}
	if slices.IsSorted(want.IDs) {
		t.Error("this order tells nothing")
	}
}

func TestP31_2None(t *testing.T) {
	r := deployed(t, full()...)
	for _, id := range []string{"", "m", "M1", "m1 ", "m10", "m1\x00", "p", strings.Repeat("m", math.MaxInt16)} {
		if m, is := r.Model(id); is || !reflect.DeepEqual(m, api.Model{}) {
			t.Errorf("%q: %v, %v", id, m, is)
		}
		if b, is := r.Document(id); is || len(b) != 0 {
			t.Errorf("%q: %s, %v", id, b, is)
		}
	}
}

func TestP31_2Copy(t *testing.T) {
	for n := range api.MaxModels {
		r := deployed(t, full()[:n]...)
		c, before := r.Copy(), of(t, r)
		if got := of(t, c); !reflect.DeepEqual(got, before) {
			t.Fatalf("%d: %v", n, got)
		}
		if _, _, err := c.Deploy([]byte(text("other", ""))); err != api.OK {
			t.Fatal(n, err)
		}
		if !reflect.DeepEqual(of(t, r), before) || !slices.Equal(c.IDs(), append(r.IDs(), "other")) {
			t.Errorf("%d: the copy changes the original", n)
		}
		after := of(t, c)
		if _, _, err := r.Deploy([]byte(full()[n])); err != api.OK {
			t.Fatal(n, err)
		}
		if !reflect.DeepEqual(of(t, c), after) {
			t.Errorf("%d: the original changes the copy", n)
		}
	}
	if _, _, err := deployed(t, full()...).Copy().Deploy([]byte(text("other", ""))); err != api.ErrFull {
		t.Error(err)
	}
}

// spoil overwrites all lists in what a pointer points to, spare capacity included.
func spoil(v reflect.Value) {
	switch v.Kind() {
	case reflect.Pointer:
		spoil(v.Elem())
	case reflect.Struct:
		for k := range v.NumField() {
			spoil(v.Field(k))
		}
	case reflect.Slice:
		for k := range v.Len() {
			spoil(v.Index(k))
		}
		whole := v.Slice(0, v.Cap())
		for k := range whole.Len() {
			whole.Index(k).SetZero()
		}
	}
}

func TestP31_2NewMemory(t *testing.T) {
	r := repo.New()
	b := append(make([]byte, 0, 9999), rich...)
	if _, _, err := r.Deploy(b); err != api.OK || string(b) != rich || slices.ContainsFunc(b[len(b):cap(b)], func(x byte) bool { return x != 0 }) {
		t.Fatal(err)
	}
	if m := of(t, r).Models[0]; len(m.Files) != 1 || len(m.Files[0].Kids[0].Refs) != 1 || len(m.Plan.Kids[0].Table[0].Entry[0].On) != 1 || len(m.Plan.Kids[0].Table[0].Roles) != 1 || len(m.Plan.Exit[0].On) != 1 {
		t.Fatal(m)
	}
	clear(b)
	want := of(t, deployed(t, rich))
	for _, other := range []*repo.Repo{r, r.Copy(), r} {
		c := of(t, other)
		spoil(reflect.ValueOf(&c))
		document, _ := other.Document("rich")
		clear(document[:cap(document)])
		if !reflect.DeepEqual(of(t, r), want) {
			t.Fatal("a result is the repository's own")
		}
	}
}

func TestP31_3Redeployed(t *testing.T) {
	r := deployed(t, append(full()[:8], rich, alike("alike", 50))...)
	want := of(t, r)
	again := deployed(t, want.Documents...)
	if !reflect.DeepEqual(of(t, again), want) {
		t.Error("the contents differ")
	}
	for k, id := range want.IDs {
		b, _ := again.Document(id)
		if !bytes.Equal(b, []byte(want.Documents[k])) {
			t.Errorf("%s: %s", id, b)
		}
	}
}
