package bind

import (
	"reflect"
	"regexp"
	"strings"
	"testing"

	"dossier/api"
	"dossier/chars"
	"dossier/model"
	"dossier/xmltree"
)

// faultless is a document with marks at places where something wrong can be put in.
const faultless = `<definitions xmlns="` + space + `"><caseFileItemDefinition id="da" [type a]/><caseFileItemDefinition id="db" [type b]/><caseFileItemDefinition id="dc" [type c]/>
<case id="m" [name]><caseFileModel><caseFileItem id="x" name="a" [multi a] definitionRef="da"><children><caseFileItem name="b" [multi b] definitionRef="db">[kids b]</caseFileItem></children>[kids a]</caseFileItem>
<caseFileItem name="c" [multi c] definitionRef="dc">[kids c]</caseFileItem></caseFileModel>[files]
<casePlanModel id="p" [auto p]>
<planningTable>
<discretionaryItem id="e" definitionRef="de"><entryCriterion sentryRef="se"/>[control e]</discretionaryItem>
<discretionaryItem id="f" definitionRef="df">[control f]</discretionaryItem></planningTable>[table p]
<planItem id="t" definitionRef="dt"><exitCriterion sentryRef="sx"/><entryCriterion sentryRef="sx"/>
<itemControl><manualActivationRule>[manual]</manualActivationRule>[manual twice]<requiredRule>[required]</requiredRule>[required twice]<repetitionRule>[repetition]</repetitionRule>[repetition twice]</itemControl>[control twice]</planItem>
<planItem id="w" definitionRef="dw"/><planItem id="h" definitionRef="dh"/>
<exitCriterion sentryRef="s1"/><exitCriterion sentryRef="s2"/>
<sentry id="s1"><ifPart>[if]</ifPart>[if twice]<caseFileItemOnPart sourceRef="x"><standardEvent>update[event]</standardEvent></caseFileItemOnPart><planItemOnPart sourceRef="t">[event twice]<standardEvent>exit</standardEvent></planItemOnPart></sentry>
<sentry id="s2"><ifPart>[condition twice]<condition><body>true</body></condition></ifPart></sentry>
<sentry id="sx"><ifPart><condition><body>true</body></condition></ifPart></sentry><sentry id="se"><ifPart><condition [language]><body>true</body></condition></ifPart></sentry>
<stage id="dt" [blocking t] [auto t]>[timer t]<planningTable><discretionaryItem id="v" definitionRef="kv"/></planningTable>[table t]<planItem id="u" definitionRef="ku"/><humanTask id="ku"/><humanTask id="kv"/></stage>
<timerEventListener id="dw" [blocking w]><timerExpression>[number]5</timerExpression>[timer w]</timerEventListener><humanTask id="dh">[timer h]</humanTask><humanTask id="de" [blocking e]/><humanTask id="df"/>
</casePlanModel>[plan]<caseRoles><role id="r"/></caseRoles>[roles]</case>[case]</definitions>`

var mark = regexp.MustCompile(`\[[a-z ]+\]`)

// A fault is what replaces a text of that document, and its error.
type fault struct {
	old, new string
	err      api.Errno
}

func missing(attribute, id string) fault {
	return fault{attribute + `="` + id + `"`, attribute + `="none"`, api.ErrNone}
}

// faults are in the order in which they are found.
func faults() []fault {
	foreign := `<condition language="x"><body/><body/></condition>`
	return []fault{
		{"[case]", `<case/>`, api.ErrModel},
		{"[plan]", `<casePlanModel/>`, api.ErrModel},
		{"[roles]", `<caseRoles/>`, api.ErrModel},
		{"[files]", `<caseFileModel/>`, api.ErrModel},
		{"[multi a]", `multiplicity="x"`, api.ErrModel},
		missing("definitionRef", "da"),
		{"[type a]", `definitionType="x"`, api.ErrModel},
		{"[kids a]", `<children/>`, api.ErrModel},
		{"[multi b]", `multiplicity="x"`, api.ErrModel},
		missing("definitionRef", "db"),
		{"[type b]", `definitionType="x"`, api.ErrModel},
		{"[kids b]", `<children><caseFileItem name="y" definitionRef="none"/></children>`, api.ErrNone},
		{"[multi c]", `multiplicity="x"`, api.ErrModel},
		missing("definitionRef", "dc"),
		{"[type c]", `definitionType="x"`, api.ErrModel},
		{"[kids c]", `<children><caseFileItem name="y"/></children>`, api.ErrNone},

		{"[auto p]", `autoComplete="x"`, api.ErrModel},
		missing("sentryRef", "s1"),
		missing("sourceRef", "x"),
		{"[event]", `x`, api.ErrModel},
		{"[event twice]", `<standardEvent/>`, api.ErrModel},
		{"[if twice]", `<ifPart/>`, api.ErrModel},
		{"[if]", foreign, api.ErrTongue},
		missing("sentryRef", "s2"),
		{"[condition twice]", foreign, api.ErrModel},

		missing("definitionRef", "dt"),
		{"[blocking t]", `isBlocking="x"`, api.ErrModel},
		{"[timer t]", `<timerExpression/>`, api.ErrModel},
		{"[control twice]", `<itemControl/>`, api.ErrModel},
		{"[repetition twice]", `<repetitionRule/>`, api.ErrModel},
		{"[repetition]", foreign, api.ErrTongue},
		{"[required twice]", `<requiredRule/>`, api.ErrModel},
		{"[required]", foreign, api.ErrTongue},
		{"[manual twice]", `<manualActivationRule/>`, api.ErrModel},
		{"[manual]", foreign, api.ErrTongue},
		{`<entryCriterion sentryRef="sx"/>`, `<entryCriterion sentryRef="none"/>`, api.ErrNone},
		{`<exitCriterion sentryRef="sx"/>`, `<exitCriterion sentryRef="none"/>`, api.ErrNone},
		{"[auto t]", `autoComplete="x"`, api.ErrModel},
		missing("definitionRef", "ku"),
		{"[table t]", `<planningTable/>`, api.ErrModel},
		missing("definitionRef", "kv"),

		missing("definitionRef", "dw"),
		{"[blocking w]", `isBlocking="x"`, api.ErrModel},
		{"[timer w]", `<timerExpression>1</timerExpression>`, api.ErrModel},
		{"[number]", `x`, api.ErrForm},
		missing("definitionRef", "dh"),
		{"[timer h]", `<timerExpression>99999999999999999999</timerExpression>`, api.ErrModel},
		{"[table p]", `<planningTable/>`, api.ErrModel},
		missing("definitionRef", "de"),
		{"[blocking e]", `isBlocking="x"`, api.ErrModel},
		{"[control e]", `<itemControl><requiredRule>` + foreign + `</requiredRule></itemControl>`, api.ErrTongue},
		missing("sentryRef", "se"),
		{"[language]", `language="x"`, api.ErrTongue},
		missing("definitionRef", "df"),
		{"[control f]", `<itemControl/><itemControl/>`, api.ErrModel},
		{"[name]", `name="` + strings.Repeat("x", 65) + `"`, api.ErrName},
	}
}

// with is the document with faults.
func with(l ...fault) string {
	text := faultless
	for _, f := range l {
		text = strings.Replace(text, f.old, f.new, 1)
	}
	return mark.ReplaceAllString(text, "")
}

func TestP15_3Order(t *testing.T) {
	if m, _, err := Read([]byte(with())); err != api.OK || len(model.Items(m)) != 8 {
		t.Fatalf("error %d, %v", err, m)
	}
	l := faults()
	for k, f := range l {
		if strings.Count(faultless, f.old) != 1 {
			t.Errorf("%q is there %d times", f.old, strings.Count(faultless, f.old))
		}
		wantError(t, f.err, with(f))
		for _, later := range l[k+1:] {
			wantError(t, f.err, with(f, later))
		}
	}
	wantError(t, l[0].err, with(l...))
}

// The errors of model.Check come last, in its own order.
func TestP15_3Check(t *testing.T) {
	for want, inner := range map[api.Errno]string{
		api.ErrName:  `<planItem id="and" definitionRef="d"/><planItem id="and" definitionRef="d"/><humanTask id="d"/>`,
		api.ErrTwice: `<planItem id="p" definitionRef="d"/><planItem id="t" definitionRef="d"/><humanTask id="d" roleRefs="r"/>`,
		api.ErrModel: `<planItem id="t" definitionRef="d"/><milestone id="d" isBlocking="false" roleRefs="r"/>`,
		api.ErrKind:  `<planItem id="t" definitionRef="d"><itemControl><repetitionRule><condition><body>1 + 1</body></condition></repetitionRule></itemControl></planItem><humanTask id="d"/>`,
		api.ErrWord:  `<planItem id="t" definitionRef="d"><itemControl><repetitionRule><condition><body>?</body></condition></repetitionRule></itemControl></planItem><humanTask id="d"/>`,
	} {
		wantError(t, want, planned(inner))
	}
}

func TestP15_4Read(t *testing.T) {
	for text, want := range map[string]struct {
		at  int
		err api.Errno
	}{
		"": {0, api.ErrNest}, " \n": {2, api.ErrNest}, "text": {0, api.ErrNest}, "<a>": {3, api.ErrNest}, "<a/><b/>": {4, api.ErrNest}, "<a><b></a>": {6, api.ErrNest},
		"<a/>\x00": {4, api.ErrChar}, "<a/>\xff": {4, api.ErrChar}, " <!DOCTYPE a><a/>": {1, api.ErrType}, "<a>&x;</a>": {3, api.ErrEntity}, "<a <b/>": {0, api.ErrMark}, " <p:a/>": {1, api.ErrSpace}, "<a b='1' b='2'/>": {0, api.ErrTwice},
		strings.Repeat("<a>", 25): {72, api.ErrFull}, "<a/>" + strings.Repeat(" ", 65533): {0, api.ErrFull}, "<a/>" + strings.Repeat(" ", 65532): {0, api.ErrModel}, "<a/>": {0, api.ErrModel},
	} {
		m, at, err := Read([]byte(text))
		if _, parsedAt, wrong := xmltree.Parse([]byte(text)); wrong != api.OK && (wrong != want.err || parsedAt != want.at) {
			t.Errorf("%.80q: error %d at %d of xmltree", text, wrong, parsedAt)
		}
		if err != want.err || at != want.at || !reflect.DeepEqual(m, api.Model{}) {
			t.Errorf("Read(%.80q): error %d at %d, want error %d at %d; %v", text, err, at, want.err, want.at, m)
		}
	}
	if m, at, err := Read(nil); err != api.ErrNest || at != 0 || !reflect.DeepEqual(m, api.Model{}) {
		t.Errorf("nil: error %d at %d", err, at)
	}
	// A document that is cut off is wrong where it ends, or where its last token begins.
	text := with()
	for end := range len(text) {
		_, at, err := Read([]byte(text[:end]))
		_, parsedAt, wrong := xmltree.Parse([]byte(text[:end]))
		if err == api.OK || err != wrong || at != parsedAt {
			t.Fatalf("cut off at %d: error %d at %d, want error %d at %d", end, err, at, wrong, parsedAt)
		}
	}
}

func TestP15_4Memory(t *testing.T) {
	b := append([]byte(with()), "spare"...)
	b = b[:len(b)-len("spare")]
	m, _, err := Read(b)
	again, _, _ := Read(b)
	if err != api.OK || string(b) != with() || string(b[:cap(b)][len(b):][:5]) != "spare" {
		t.Fatal("error", err, ", or an argument was modified")
	}
	for k := range b {
		b[k] = 'x'
	}
	if !same(m, again) {
		t.Error("an argument is retained")
	}
}

// stretch gives all lists of an element spare capacity that is not empty.
func stretch(e api.Element) api.Element {
	e.Attrs = append(append([]api.Pair(nil), e.Attrs...), api.Pair{Name: "id", Value: "spare"})[:len(e.Attrs)]
	kids := make([]api.Element, 0, len(e.Kids)+1)
	for _, kid := range e.Kids {
		kids = append(kids, stretch(kid))
	}
	e.Kids = append(kids, api.Element{Space: space, Name: "case"})[:len(kids)]
	return e
}

// stretched reports whether what stretch put into the spare capacity is still there.
func stretched(e api.Element) bool {
	for _, kid := range e.Kids {
		if !stretched(kid) {
			return false
		}
	}
	return e.Attrs[:len(e.Attrs)+1][len(e.Attrs)].Value == "spare" && e.Kids[:len(e.Kids)+1][len(e.Kids)].Name == "case"
}

func TestP15_2Memory(t *testing.T) {
	shared := `<planItem id="t" definitionRef="d"><entryCriterion sentryRef="s"/><entryCriterion sentryRef="s"/></planItem><planItem id="u" definitionRef="d"><entryCriterion sentryRef="s"/></planItem><planItem id="v" definitionRef="e"/><planItem id="w" definitionRef="e"/>
		<stage id="e" roleRefs="r"/><humanTask id="d" roleRefs="q r"/><sentry id="s"><planItemOnPart sourceRef="p"><standardEvent>exit</standardEvent></planItemOnPart><planItemOnPart sourceRef="p"><standardEvent>fault</standardEvent></planItemOnPart></sentry>`
	for _, text := range []string{with(), strings.Replace(planned(shared), `<case id="m">`, `<caseFileItemDefinition id="f"/><case id="m"><caseRoles><role id="q"/><role id="r"/></caseRoles>
		<caseFileModel><caseFileItem name="a" definitionRef="f" targetRefs="a b"/><caseFileItem name="b" definitionRef="f" targetRefs="a b"/></caseFileModel>`, 1)} {
		e := stretch(parsed(t, text))
		m, err := Model(e)
		again, _ := Model(e)
		if err != api.OK || !reflect.DeepEqual(bareElement(e), bareElement(parsed(t, text))) || !stretched(e) {
			t.Fatal("error", err, ", or an argument was modified")
		}
		spoilSpare(&m)
		if !same(m, again) {
			t.Error("two lists share memory")
		}
		spoil(&m)
		if same(m, again) || !reflect.DeepEqual(bareElement(e), bareElement(parsed(t, text))) {
			t.Error("a result shares memory with the argument")
		}
		if third, _ := Model(e); !same(again, third) {
			t.Error("two results share memory")
		}
	}
}

// bareElement has nil in place of all empty lists.
func bareElement(e api.Element) api.Element {
	e.Attrs = append([]api.Pair(nil), e.Attrs...)
	var kids []api.Element
	for _, kid := range e.Kids {
		kids = append(kids, bareElement(kid))
	}
	e.Kids = kids
	return e
}

// beyond changes the spare capacity of a list.
func beyond[T any](l []T, with T) {
	for k := len(l); k < cap(l); k++ {
		l[:cap(l)][k] = with
	}
}

// all changes a list.
func all[T any](l []T, with T) {
	for k := range l {
		l[k] = with
	}
}

func spoilSpare(m *api.Model) {
	beyond(m.Roles, "spoilt")
	spareFiles(m.Files)
	spareItem(m.Plan)
}

func spareFiles(l []api.FileItem) {
	for _, f := range l {
		beyond(f.Refs, "spoilt")
		spareFiles(f.Kids)
	}
	beyond(l, api.FileItem{Name: "spoilt"})
}

func spareItem(i api.Item) {
	for _, l := range [][]api.Sentry{i.Entry, i.Exit} {
		for _, s := range l {
			beyond(s.On, api.OnPart{Item: "spoilt"})
		}
		beyond(l, api.Sentry{If: "spoilt"})
	}
	beyond(i.Roles, "spoilt")
	for _, l := range [][]api.Item{i.Kids, i.Table} {
		for _, below := range l {
			spareItem(below)
		}
		beyond(l, api.Item{ID: "spoilt"})
	}
}

func spoil(m *api.Model) {
	all(m.Roles, "spoilt")
	spoilFiles(m.Files)
	spoilItem(m.Plan)
}

func spoilFiles(l []api.FileItem) {
	for _, f := range l {
		all(f.Refs, "spoilt")
		spoilFiles(f.Kids)
	}
	all(l, api.FileItem{Name: "spoilt"})
}

func spoilItem(i api.Item) {
	for _, l := range [][]api.Sentry{i.Entry, i.Exit} {
		for _, s := range l {
			all(s.On, api.OnPart{Item: "spoilt"})
		}
		all(l, api.Sentry{If: "spoilt"})
	}
	all(i.Roles, "spoilt")
	for _, l := range [][]api.Item{i.Kids, i.Table} {
		for _, below := range l {
			spoilItem(below)
		}
		all(l, api.Item{ID: "spoilt"})
	}
}

// Blanks are those of layer 1, whatever else a character is.
func TestP15_1Words(t *testing.T) {
	for r := range 0x3001 {
		c := string(chars.Encode(r))
		l := words(api.Element{Attrs: []api.Pair{{Name: "w", Value: c + "a" + c + c + "b" + c}}}, "w")
		if is := len(l) == 2 && l[0] == "a" && l[1] == "b"; is != chars.Space(r) && c != "" {
			t.Errorf("%U: %q", r, l)
		}
	}
}
