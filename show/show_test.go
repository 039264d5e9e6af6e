package show

import (
	"math"
	"reflect"
	"strconv"
	"strings"
	"testing"

	"dossier/api"
	"dossier/model"
	"dossier/xmltree"
)

func on(item string, event int) api.OnPart { return api.OnPart{Item: item, Event: event} }

func onFile(path string, event int) api.OnPart { return api.OnPart{File: path, Event: event} }

func after(condition string, on ...api.OnPart) api.Sentry { return api.Sentry{On: on, If: condition} }

func task(id string) api.Item { return api.Item{ID: id, Kind: api.ItemHuman} }

func plan(kids ...api.Item) api.Model { return api.Model{ID: "m", Plan: api.Item{ID: "p", Kids: kids}} }

func row(many int) []api.Item {
	var l []api.Item
	for k := range many {
		l = append(l, task("a"+strconv.Itoa(k)))
	}
	return l
}

// nest is so many stages, one inside the other, around some items.
func nest(many int, inner ...api.Item) []api.Item {
	for k := range many {
		inner = []api.Item{{ID: "n" + strconv.Itoa(k), Kids: inner}}
	}
	return inner
}

// joined is a document that is laid out over lines.
func joined(s string) string {
	out := ""
	for _, line := range strings.Split(s, "\n") {
		out += strings.TrimSpace(line)
	}
	return out
}

func wantPrint(t *testing.T, m api.Model, want string) {
	t.Helper()
	b, err := Print(m)
	want = joined(want)
	if string(b) != want || err != api.OK {
		at := 0
		for at < min(len(b), len(want)) && b[at] == want[at] {
			at++
		}
		t.Errorf("error %d, other from byte %d on: %.200q, want %.200q", err, at, b[at:], want[at:])
	}
}

// framed is the document of the model m with a plan that has this inside it.
func framed(inner string) string {
	return `<definitions xmlns="http://www.omg.org/spec/CMMN/20151109/MODEL" targetNamespace="http://dossier"><case id="m">
		<casePlanModel id="p" autoComplete="false">` + inner + `</casePlanModel></case></definitions>`
}

func TestP14_1Empty(t *testing.T) {
	wantPrint(t, plan(), `<definitions xmlns="http://www.omg.org/spec/CMMN/20151109/MODEL" targetNamespace="http://dossier">
		<case id="m"><casePlanModel id="p" autoComplete="false"/></case></definitions>`)
	m := plan()
	m.Name, m.Plan.Name, m.Plan.Auto = " <a> & \"b\" '\u00e9'", "Plan", true
	wantPrint(t, m, `<definitions xmlns="http://www.omg.org/spec/CMMN/20151109/MODEL" targetNamespace="http://dossier">
		<case id="m" name=" &lt;a&gt; &amp; &quot;b&quot; '`+"\u00e9"+`'"><casePlanModel id="p" name="Plan" autoComplete="true"/></case></definitions>`)
}

func TestP14_1Roles(t *testing.T) {
	m := plan(api.Item{ID: "l", Kind: api.ItemListener, Roles: []string{"c"}}, api.Item{ID: "t", Kind: api.ItemCase, Roles: []string{"c", "a", "b"}, Free: true}, api.Item{ID: "s", Roles: []string{"b", "a"}})
	m.Roles = []string{"b", "a", "c"}
	wantPrint(t, m, `<definitions xmlns="http://www.omg.org/spec/CMMN/20151109/MODEL" targetNamespace="http://dossier"><case id="m"><casePlanModel id="p" autoComplete="false">
		<planItem id="l" definitionRef="_dl"/><planItem id="t" definitionRef="_dt"/><planItem id="s" definitionRef="_ds"/>
		<userEventListener id="_dl" roleRefs="c"/><caseTask id="_dt" isBlocking="false" roleRefs="c a b"/><stage id="_ds" autoComplete="false" roleRefs="b a"/></casePlanModel>
		<caseRoles><role id="b"/><role id="a"/><role id="c"/></caseRoles></case></definitions>`)
}

func TestP14_1Files(t *testing.T) {
	m := plan(api.Item{ID: "t", Kind: api.ItemHuman, Entry: []api.Sentry{after("", onFile("z.b.a", api.EvUpdate), onFile("a", api.EvCreate), onFile("z", api.EvAddChild))}})
	m.Files = []api.FileItem{
		{Name: "z", Kind: api.KindText, Multi: api.MultiAny, Refs: []string{"a", "z.b.a", "z"}, Kids: []api.FileItem{
			{Name: "b", Kind: api.KindInt, Multi: api.MultiMaybe, Kids: []api.FileItem{{Name: "a", Kind: api.KindBool, Multi: api.MultiSome, Refs: []string{"z.b"}}}},
			{Name: "a"}}},
		{Name: "a", Multi: api.MultiSome}}
	wantPrint(t, m, `<definitions xmlns="http://www.omg.org/spec/CMMN/20151109/MODEL" targetNamespace="http://dossier">
		<caseFileItemDefinition id="_f0" definitionType="string"/>
		<caseFileItemDefinition id="_f1" definitionType="int"/>
		<caseFileItemDefinition id="_f2" definitionType="bool"/>
		<caseFileItemDefinition id="_f3" definitionType="none"/>
		<caseFileItemDefinition id="_f4" definitionType="none"/>
		<case id="m"><caseFileModel>
		<caseFileItem id="_i0" name="z" multiplicity="ZeroOrMore" definitionRef="_f0" targetRefs="a z.b.a z"><children>
		<caseFileItem id="_i1" name="b" multiplicity="ZeroOrOne" definitionRef="_f1"><children>
		<caseFileItem id="_i2" name="a" multiplicity="OneOrMore" definitionRef="_f2" targetRefs="z.b"/></children></caseFileItem>
		<caseFileItem id="_i3" name="a" multiplicity="ExactlyOne" definitionRef="_f3"/></children></caseFileItem>
		<caseFileItem id="_i4" name="a" multiplicity="OneOrMore" definitionRef="_f4"/></caseFileModel>
		<casePlanModel id="p" autoComplete="false"><planItem id="t" definitionRef="_dt"><entryCriterion id="_et_0" sentryRef="_set_0"/></planItem>
		<sentry id="_set_0"><caseFileItemOnPart sourceRef="_i2"><standardEvent>update</standardEvent></caseFileItemOnPart>
		<caseFileItemOnPart sourceRef="_i4"><standardEvent>create</standardEvent></caseFileItemOnPart>
		<caseFileItemOnPart sourceRef="_i0"><standardEvent>addChild</standardEvent></caseFileItemOnPart></sentry>
		<humanTask id="_dt"/></casePlanModel></case></definitions>`)
}

func TestP14_1Kinds(t *testing.T) {
	for kind, name := range kinds() {
		i := api.Item{ID: "x", Name: "An item", Kind: kind}
		inner := `<` + name + ` id="_dx" name="An item"/>`
		switch kind {
		case api.ItemStage:
			inner = `<stage id="_dx" name="An item" autoComplete="false"/>`
		case api.ItemTimer:
			i.After = 1 << 31
			inner = `<timerEventListener id="_dx" name="An item"><timerExpression>2147483648</timerExpression></timerEventListener>`
		}
		wantPrint(t, plan(i), framed(`<planItem id="x" definitionRef="_dx"/>`+inner))
		m := plan()
		m.Plan.Table = []api.Item{i}
		wantPrint(t, m, framed(inner+`<planningTable><discretionaryItem id="x" definitionRef="_dx"/></planningTable>`))
	}
	i := api.Item{ID: "x", Auto: true, Roles: []string{}}
	wantPrint(t, plan(i), framed(`<planItem id="x" definitionRef="_dx"/><stage id="_dx" autoComplete="true"/>`))
}

func TestP14_1Rules(t *testing.T) {
	use := func(inner string) string {
		return framed(`<planItem id="t" definitionRef="_dt">` + inner + `</planItem><processTask id="_dt"/>`)
	}
	rule := func(name, s string) string {
		return `<` + name + `><condition><body>` + s + `</body></condition></` + name + `>`
	}
	i := api.Item{ID: "t", Kind: api.ItemProcess, Manual: "1 < 2", Required: "true", Repeat: " not  false"}
	wantPrint(t, plan(i), use(`<itemControl>`+rule("repetitionRule", " not  false")+rule("requiredRule", "true")+rule("manualActivationRule", "1 &lt; 2")+`</itemControl>`))
	wantPrint(t, plan(api.Item{ID: "t", Kind: api.ItemProcess, Manual: "false"}), use(`<itemControl>`+rule("manualActivationRule", "false")+`</itemControl>`))
	wantPrint(t, plan(api.Item{ID: "t", Kind: api.ItemProcess, Required: "false"}), use(`<itemControl>`+rule("requiredRule", "false")+`</itemControl>`))
	wantPrint(t, plan(api.Item{ID: "t", Kind: api.ItemProcess, Repeat: "false", Required: "true"}), use(`<itemControl>`+rule("repetitionRule", "false")+rule("requiredRule", "true")+`</itemControl>`))
}

func TestP14_1Events(t *testing.T) {
	for event := api.EvCreate; event <= api.EvCutRef; event++ {
		if model.FileEvent(event) {
			m := plan(api.Item{ID: "x", Kind: api.ItemHuman, Exit: []api.Sentry{after("", onFile("f", event))}})
			m.Files = []api.FileItem{{Name: "f"}}
			wantEvent(t, m, `<caseFileItemOnPart sourceRef="_i0"><standardEvent>`+model.EventName(event)+`</standardEvent></caseFileItemOnPart>`)
		}
		for kind := range kinds() {
			i := api.Item{ID: "y", Kind: kind}
			if kind == api.ItemTimer {
				i.After = 1
			}
			if model.Events(kind, event) {
				m := plan(api.Item{ID: "x", Kind: api.ItemHuman, Exit: []api.Sentry{after("", on("y", event))}}, i)
				wantEvent(t, m, `<planItemOnPart sourceRef="y"><standardEvent>`+model.EventName(event)+`</standardEvent></planItemOnPart>`)
			}
		}
	}
}

func wantEvent(t *testing.T, m api.Model, part string) {
	t.Helper()
	b, err := Print(m)
	if want := `<sentry id="_sxx_0">` + part + `</sentry>`; !strings.Contains(string(b), want) || err != api.OK {
		t.Errorf("error %d, no %q in %q", err, want, b)
	}
}

// staged is a model with sentries wherever they may be.
func staged() api.Model {
	truth := after("true")
	return api.Model{ID: "m", Plan: api.Item{ID: "p", Exit: []api.Sentry{after("false", on("t", api.EvExit)), truth}, Kids: []api.Item{
		{ID: "s", Auto: true, Entry: []api.Sentry{truth}, Exit: []api.Sentry{truth}, Kids: []api.Item{{ID: "u", Kind: api.ItemHuman, Exit: []api.Sentry{truth}}}, Table: []api.Item{{ID: "v", Kind: api.ItemMilestone, Entry: []api.Sentry{truth, truth}}}},
		{ID: "t", Kind: api.ItemHuman, Exit: []api.Sentry{after("1 < 2", on("s", api.EvCreate), on("v", api.EvOccur))}}},
		Table: []api.Item{{ID: "d", Kind: api.ItemHuman, Required: "true", Entry: []api.Sentry{truth}, Exit: []api.Sentry{truth, after("", on("p", api.EvFault))}}, {ID: "e", Kind: api.ItemDecision}}}}
}

func TestP14_1Stages(t *testing.T) {
	truth := `<ifPart><condition><body>true</body></condition></ifPart></sentry>`
	wantPrint(t, staged(), framed(`
		<exitCriterion id="_xp_0" sentryRef="_sxp_0"/><exitCriterion id="_xp_1" sentryRef="_sxp_1"/>
		<planItem id="s" definitionRef="_ds"><entryCriterion id="_es_0" sentryRef="_ses_0"/><exitCriterion id="_xs_0" sentryRef="_sxs_0"/></planItem>
		<planItem id="t" definitionRef="_dt"><exitCriterion id="_xt_0" sentryRef="_sxt_0"/></planItem>
		<sentry id="_sxp_0"><planItemOnPart sourceRef="t"><standardEvent>exit</standardEvent></planItemOnPart><ifPart><condition><body>false</body></condition></ifPart></sentry>
		<sentry id="_sxp_1">`+truth+`<sentry id="_ses_0">`+truth+`<sentry id="_sxs_0">`+truth+`
		<sentry id="_sxt_0"><planItemOnPart sourceRef="s"><standardEvent>create</standardEvent></planItemOnPart><planItemOnPart sourceRef="v"><standardEvent>occur</standardEvent></planItemOnPart>
		<ifPart><condition><body>1 &lt; 2</body></condition></ifPart></sentry>
		<sentry id="_sed_0">`+truth+`<sentry id="_sxd_0">`+truth+`<sentry id="_sxd_1"><planItemOnPart sourceRef="p"><standardEvent>fault</standardEvent></planItemOnPart></sentry>
		<stage id="_ds" autoComplete="true"><planItem id="u" definitionRef="_du"><exitCriterion id="_xu_0" sentryRef="_sxu_0"/></planItem>
		<sentry id="_sxu_0">`+truth+`<sentry id="_sev_0">`+truth+`<sentry id="_sev_1">`+truth+`<humanTask id="_du"/><milestone id="_dv"/>
		<planningTable><discretionaryItem id="v" definitionRef="_dv"><entryCriterion id="_ev_0" sentryRef="_sev_0"/><entryCriterion id="_ev_1" sentryRef="_sev_1"/></discretionaryItem></planningTable></stage>
		<humanTask id="_dt"/><humanTask id="_dd"/><decisionTask id="_de"/>
		<planningTable><discretionaryItem id="d" definitionRef="_dd"><itemControl><requiredRule><condition><body>true</body></condition></requiredRule></itemControl>
		<entryCriterion id="_ed_0" sentryRef="_sed_0"/><exitCriterion id="_xd_0" sentryRef="_sxd_0"/><exitCriterion id="_xd_1" sentryRef="_sxd_1"/></discretionaryItem>
		<discretionaryItem id="e" definitionRef="_de"/></planningTable>`))
}

func wantError(t *testing.T, what string, m api.Model, element, print api.Errno) {
	t.Helper()
	e, err := Element(m)
	if err != element || err != api.OK && !reflect.DeepEqual(e, api.Element{}) {
		t.Errorf("%s: Element: error %d, want error %d: %.300v", what, err, element, e)
	}
	b, err := Print(m)
	if err != print || err != api.OK && len(b) > 0 {
		t.Errorf("%s: Print: error %d, want error %d: %.300q", what, err, print, b)
	}
}

func TestP14_1Invalid(t *testing.T) {
	for what, x := range map[string]struct {
		m   api.Model
		err api.Errno
	}{
		"nothing":            {api.Model{}, api.ErrName},
		"name":               {api.Model{ID: "m", Name: "\x00", Plan: api.Item{ID: "p"}}, api.ErrName},
		"plan":               {api.Model{ID: "m", Plan: task("p")}, api.ErrModel},
		"too many":           {plan(row(200)...), api.ErrFull},
		"twice":              {plan(row(1)[0], row(1)[0]), api.ErrTwice},
		"kind":               {plan(api.Item{ID: "x", Kind: 8}), api.ErrModel},
		"role":               {plan(api.Item{ID: "x", Roles: []string{"r"}}), api.ErrName},
		"condition":          {plan(api.Item{ID: "x", Manual: "1"}), api.ErrKind},
		"an error of parse":  {plan(api.Item{ID: "x", Repeat: "("}), api.ErrParse},
		"case file":          {api.Model{ID: "m", Files: []api.FileItem{{Name: "a", Kind: -1}}, Plan: api.Item{ID: "p"}}, api.ErrKind},
		"too deep":           {plan(nest(60000)...), api.ErrFull},
		"wrong and too wide": {plan(append(row(120), api.Item{ID: "x", Kind: -1})...), api.ErrModel},
	} {
		wantError(t, what, x.m, x.err, x.err)
	}
}

// What is valid, but cannot be written: elements with too many kids, and such as are too deep.
func TestP14_1Full(t *testing.T) {
	wantError(t, "50 items and definitions", plan(row(50)...), api.OK, api.OK)
	wantError(t, "51", plan(row(51)...), api.ErrFull, api.ErrFull)
	m := plan(row(50)...)
	m.Plan.Exit = []api.Sentry{after("true")}
	wantError(t, "50 and a sentry", m, api.ErrFull, api.ErrFull)
	m = plan()
	m.Plan.Table = row(99)
	wantError(t, "99 definitions and their table", m, api.OK, api.OK)
	m.Plan.Table = row(100)
	wantError(t, "100", m, api.ErrFull, api.ErrFull)
	m = plan()
	for k := range 60 {
		m.Files = append(m.Files, api.FileItem{Name: "f" + strconv.Itoa(k)})
	}
	wantError(t, "60 definitions of the case file", m, api.OK, api.OK)
	// A definition has two elements more around it than its item has items; what is inside of one lies deeper still.
	wantError(t, "21 stages", plan(nest(21)...), api.OK, api.OK)
	wantError(t, "22 stages", plan(nest(22)...), api.ErrFull, api.ErrFull)
	wantError(t, "23 stages", plan(nest(23)...), api.ErrFull, api.ErrFull)
	wantError(t, "a timer in 19", plan(nest(19, api.Item{ID: "w", Kind: api.ItemTimer, After: 1})...), api.OK, api.OK)
	wantError(t, "a timer in 21", plan(nest(21, api.Item{ID: "w", Kind: api.ItemTimer, After: 1})...), api.ErrFull, api.ErrFull)
	guarded := task("t")
	guarded.Exit = []api.Sentry{after("true")}
	wantError(t, "a sentry in 17", plan(nest(17, guarded)...), api.OK, api.OK)
	wantError(t, "a sentry in 18", plan(nest(18, guarded)...), api.ErrFull, api.ErrFull)
	deep := []api.FileItem{{Name: "a"}}
	for range 9 {
		deep = []api.FileItem{{Name: "a", Kids: deep}}
	}
	m = plan()
	m.Files = deep
	wantError(t, "10 levels of the case file", m, api.OK, api.OK)
	m.Files = []api.FileItem{{Name: "a", Kids: deep}}
	wantError(t, "11 levels of the case file", m, api.OK, api.OK)
	m.Files = []api.FileItem{{Name: "a", Kids: m.Files}}
	wantError(t, "12 levels of the case file", m, api.ErrFull, api.ErrFull)
}

// stretched has rules that are so many bytes longer in all than need be.
func stretched(bytes int) api.Model {
	m := plan(row(50)...)
	for k := range m.Plan.Kids {
		i := &m.Plan.Kids[k]
		for _, rule := range []*string{&i.Manual, &i.Required, &i.Repeat} {
			blanks := min(bytes, 396)
			*rule = strings.Repeat(" ", blanks) + "true"
			bytes -= blanks
		}
	}
	return m
}

func TestP14_1Long(t *testing.T) {
	room := 65536 - len(printed(t, stretched(0)))
	if b := printed(t, stretched(room)); len(b) != 65536 {
		t.Error(len(b))
	}
	wantError(t, "one byte too many", stretched(room+1), api.OK, api.ErrFull)
	wantError(t, "as long as can be", stretched(150*396), api.OK, api.ErrFull)
}

func kinds() map[int]string {
	return map[int]string{0: "stage", 1: "humanTask", 2: "processTask", 3: "caseTask", 4: "decisionTask", 5: "milestone", 6: "userEventListener", 7: "timerEventListener"}
}

func TestP14_2Kinds(t *testing.T) {
	for kind, name := range kinds() {
		if s := KindName(kind); s != name {
			t.Errorf("KindName(%d) = %q, want %q", kind, s, name)
		}
		if k, is := KindOf(name); k != kind || !is {
			t.Errorf("KindOf(%q) = %d, %t", name, k, is)
		}
	}
	for _, kind := range []int{math.MinInt, -1 << 32, -1, 8, 9, 100, 1 << 32, 1<<32 + 1, math.MaxInt} {
		if s := KindName(kind); s != "" {
			t.Errorf("KindName(%d) = %q", kind, s)
		}
	}
	for _, name := range []string{"", " ", "Stage", "stage ", " stage", "task", "casePlanModel", "planItem", "timer", "milestones", "\x00", "human", "humantask"} {
		if k, is := KindOf(name); k != 0 || is {
			t.Errorf("KindOf(%q) = %d, %t", name, k, is)
		}
	}
}

// spoilSpare changes the spare capacity of all lists of an element.
func spoilSpare(e api.Element) {
	for _, kid := range e.Kids {
		spoilSpare(kid)
	}
	kids, attrs := e.Kids[len(e.Kids):cap(e.Kids)], e.Attrs[len(e.Attrs):cap(e.Attrs)]
	for k := range kids {
		kids[k] = api.Element{Name: "spoilt"}
	}
	for k := range attrs {
		attrs[k] = api.Pair{Name: "spoilt"}
	}
}

// spoil changes all lists of an element.
func spoil(e api.Element) {
	for k, kid := range e.Kids {
		spoil(kid)
		e.Kids[k] = api.Element{Name: "spoilt"}
	}
	for k := range e.Attrs {
		e.Attrs[k] = api.Pair{Name: "spoilt"}
	}
}

func TestP14_1Memory(t *testing.T) {
	m := staged()
	m.Plan.Kids = append(m.Plan.Kids, task("spare"))[:2]
	m.Plan.Exit = append(m.Plan.Exit, after("spare"))[:2]
	e, _ := Element(m)
	spoilSpare(e)
	again, _ := Element(m)
	if !reflect.DeepEqual(e, again) {
		t.Error("two lists share memory")
	}
	spoil(e)
	if b, _ := xmltree.Write(again); string(b) != string(printed(t, staged())) {
		t.Error("two results share memory")
	}
	b := printed(t, m)
	want := string(b)
	for k := range b[:cap(b)] {
		b[:cap(b)][k] = 'x'
	}
	if string(printed(t, m)) != want || !reflect.DeepEqual(m, staged()) || m.Plan.Kids[:3][2].ID != "spare" || m.Plan.Exit[:3][2].If != "spare" {
		t.Error("an argument was modified")
	}
}

func printed(t *testing.T, m api.Model) []byte {
	t.Helper()
	b, err := Print(m)
	if err != api.OK {
		t.Fatalf("Print(%+v): error %d", m, err)
	}
	return b
}
