package bind

import (
	"reflect"
	"strconv"
	"strings"
	"testing"

	"dossier/api"
	"dossier/show"
	"dossier/xmltree"
)

const space = "http://www.omg.org/spec/CMMN/20151109/MODEL"

// defined is a document with this in its definitions element.
func defined(inner string) string {
	return `<definitions xmlns="` + space + `">` + inner + `</definitions>`
}

// cased is a document with this in its case m, besides the plan p.
func cased(inner string) string {
	return defined(`<case id="m">` + inner + `<casePlanModel id="p"/></case>`)
}

// planned is a document with this in its plan p.
func planned(inner string) string {
	return defined(`<case id="m"><casePlanModel id="p">` + inner + `</casePlanModel></case>`)
}

// used is a document whose plan has a task t with this in its planItem, and this behind it.
func used(inner, behind string) string {
	return planned(`<planItem id="t" definitionRef="d">` + inner + `</planItem><humanTask id="d"/>` + behind)
}

func plan(kids ...api.Item) api.Model { return api.Model{ID: "m", Plan: api.Item{ID: "p", Kids: kids}} }

func task(id string) api.Item { return api.Item{ID: id, Kind: api.ItemHuman} }

func waits(condition string, on ...api.OnPart) api.Sentry { return api.Sentry{On: on, If: condition} }

func on(item string, event int) api.OnPart { return api.OnPart{Item: item, Event: event} }

func onFiles(path string, event int) api.OnPart { return api.OnPart{File: path, Event: event} }

// bare has nil in place of all empty lists.
func bare(m api.Model) api.Model {
	m.Roles = append([]string(nil), m.Roles...)
	m.Files = bareFiles(m.Files)
	m.Plan = bareItems([]api.Item{m.Plan})[0]
	return m
}

func bareFiles(l []api.FileItem) []api.FileItem {
	var all []api.FileItem
	for _, f := range l {
		f.Refs, f.Kids = append([]string(nil), f.Refs...), bareFiles(f.Kids)
		all = append(all, f)
	}
	return all
}

func bareItems(l []api.Item) []api.Item {
	var all []api.Item
	for _, i := range l {
		i.Entry, i.Exit = bareSentries(i.Entry), bareSentries(i.Exit)
		i.Roles = append([]string(nil), i.Roles...)
		i.Kids, i.Table = bareItems(i.Kids), bareItems(i.Table)
		all = append(all, i)
	}
	return all
}

func bareSentries(l []api.Sentry) []api.Sentry {
	var all []api.Sentry
	for _, s := range l {
		s.On = append([]api.OnPart(nil), s.On...)
		all = append(all, s)
	}
	return all
}

func same(a, b api.Model) bool { return reflect.DeepEqual(bare(a), bare(b)) }

func parsed(t *testing.T, text string) api.Element {
	t.Helper()
	e, at, err := xmltree.Parse([]byte(text))
	if err != api.OK {
		t.Fatalf("error %d at %d of %.3000q", err, at, text)
	}
	return e
}

// wantModel holds a document to be read as a model, and to be so again once it is printed.
func wantModel(t *testing.T, text string, want api.Model) {
	t.Helper()
	m, err := Model(parsed(t, text))
	if err != api.OK || !same(m, want) {
		t.Errorf("%.3000s\nis read as %.3000v, error %d,\nwant %.3000v", text, m, err, want)
		return
	}
	m, at, err := Read([]byte(text))
	if err != api.OK || at != 0 || !same(m, want) {
		t.Errorf("%.3000s\nis read as %.3000v, error %d at %d", text, m, err, at)
	}
	b, err := show.Print(m)
	if again, _, wrong := Read(b); err != api.OK || wrong != api.OK || !same(again, want) {
		t.Errorf("%.3000s\nis printed with error %d as %.3000s,\nread again with error %d as %.3000v", text, err, b, wrong, again)
	}
}

func wantError(t *testing.T, want api.Errno, text string) {
	t.Helper()
	m, err := Model(parsed(t, text))
	if err != want || !reflect.DeepEqual(m, api.Model{}) {
		t.Errorf("%.3000s\nis error %d with %.300v, want error %d", text, err, m, want)
	}
	m, at, err := Read([]byte(text))
	if err != want || at != 0 || !reflect.DeepEqual(m, api.Model{}) {
		t.Errorf("%.3000s\nis read with error %d at %d and %.300v, want error %d", text, err, at, m, want)
	}
}

func TestP15_1Frame(t *testing.T) {
	wantModel(t, defined(`<case id="m"><casePlanModel id="p"/></case>`), plan())
	m := plan()
	m.Name, m.Plan.Name = " A <case>\n", "A plan"
	wantModel(t, defined(`<case id="m" name=" A &lt;case>&#10;"><casePlanModel name="A plan" id="p"/></case>`), m)
	for _, text := range []string{
		`<a/>`, `<definitions/>`, `<case xmlns="` + space + `" id="m"><casePlanModel id="p"/></case>`,
		`<definitions><case id="m"><casePlanModel id="p"/></case></definitions>`,
		strings.ReplaceAll(cased(""), space, space+"/"), strings.ReplaceAll(cased(""), space, "http://www.omg.org/spec/CMMN/20151109/model"),
		strings.ReplaceAll(cased(""), "definitions", "Definitions"), strings.ReplaceAll(cased(""), "definitions", "definition"),
		defined(``), defined(`<casePlanModel id="p"/>`), defined(`<case id="m"/>`), defined(`<Case id="m"><casePlanModel id="p"/></Case>`),
		defined(`<case id="m"><casePlanModel id="p"/></case><case id="n"><casePlanModel id="p"/></case>`),
		defined(`<case id="m"><casePlanModel id="p"/></case><case/>`), defined(`<case id="m"><casePlanModel id="p"/><casePlanModel id="q"/></case>`),
		defined(`<case id="m"><stage id="p"/></case>`), defined(`<case id="m"><case><casePlanModel id="p"/></case></case>`), defined(`<case id="m"/><casePlanModel id="p"/>`),
	} {
		wantError(t, api.ErrModel, text)
	}
	wantError(t, api.ErrName, defined(`<case><casePlanModel id="p"/></case>`))
	wantError(t, api.ErrName, defined(`<case id="m"><casePlanModel/></case>`))
	if m, err := Model(api.Element{}); err != api.ErrModel || !reflect.DeepEqual(m, api.Model{}) {
		t.Error("no element: error", err)
	}
}

func TestP15_1Roles(t *testing.T) {
	m := plan()
	m.Roles = []string{"b", "a"}
	wantModel(t, cased(`<caseRoles><role id="b" name="x"/><role id="a"/></caseRoles>`), m)
	wantModel(t, cased(`<caseRoles id="r"/>`), plan())
	wantModel(t, cased(`<role id="b"/><caseRoles><caseRoles><role id="a"/></caseRoles><Role id="c"/>a b</caseRoles>`), plan())
	wantError(t, api.ErrModel, cased(`<caseRoles/><caseRoles/>`))
	wantError(t, api.ErrModel, cased(`<caseRoles><role id="a"/></caseRoles><caseRoles><role id="b"/></caseRoles>`))
	wantError(t, api.ErrName, cased(`<caseRoles><role/></caseRoles>`))
	wantError(t, api.ErrName, cased(`<caseRoles><role name="a"/></caseRoles>`))
	wantError(t, api.ErrTwice, cased(`<caseRoles><role id="a"/><role id="a"/></caseRoles>`))
	wantError(t, api.ErrFull, cased(`<caseRoles>`+numbered(17, `<role id="r@"/>`)+`</caseRoles>`))
}

// numbered is a text so many times, with the number of each in place of @.
func numbered(many int, text string) string {
	var s strings.Builder
	for k := range many {
		s.WriteString(strings.ReplaceAll(text, "@", strconv.Itoa(k)))
	}
	return s.String()
}

// filed is a document with this in its caseFileModel, and definitions n, i, b and s.
func filed(inner string) string {
	return defined(`<caseFileItemDefinition id="n" definitionType="none"/><caseFileItemDefinition id="i" definitionType="int"/>
		<case id="m"><caseFileModel>` + inner + `</caseFileModel><casePlanModel id="p"/></case>
		<caseFileItemDefinition id="b" definitionType="bool"/><caseFileItemDefinition id="s" definitionType="string"/>`)
}

func withFiles(l ...api.FileItem) api.Model {
	m := plan()
	m.Files = l
	return m
}

func TestP15_1Files(t *testing.T) {
	wantModel(t, filed(``), plan())
	wantModel(t, cased(`<caseFileItem name="a" definitionRef="none"/><caseFileModel><children><caseFileItem/></children><CaseFileItem/></caseFileModel>`), plan())
	wantModel(t, filed(`<caseFileItem name="a" multiplicity="ExactlyOne" definitionRef="i" targetRefs=" c.x&#9;&#10;a&#13; "><children>
		<caseFileItem name="a" definitionRef="b"><caseFileItem definitionRef="none"/></caseFileItem></children></caseFileItem>
		<caseFileItem name="b" definitionRef="s" multiplicity="ZeroOrOne"><children/></caseFileItem>
		<caseFileItem name="c" definitionRef="n"><children><caseFileItem name="x" definitionRef="n" targetRefs=""><children>
		<caseFileItem name="y" definitionRef="i"/></children></caseFileItem><caseFileItem name="z" definitionRef="n"/></children></caseFileItem>`),
		withFiles(api.FileItem{Name: "a", Kind: api.KindInt, Refs: []string{"c.x", "a"}, Kids: []api.FileItem{{Name: "a", Kind: api.KindBool, Multi: api.MultiAny}}},
			api.FileItem{Name: "b", Kind: api.KindText, Multi: api.MultiMaybe},
			api.FileItem{Name: "c", Multi: api.MultiAny, Kids: []api.FileItem{{Name: "x", Multi: api.MultiAny, Kids: []api.FileItem{{Name: "y", Kind: api.KindInt, Multi: api.MultiAny}}}, {Name: "z", Multi: api.MultiAny}}}))
	wantError(t, api.ErrModel, cased(`<caseFileModel/><caseFileModel/>`))
	wantError(t, api.ErrModel, filed(`<caseFileItem name="a" definitionRef="n"><children/><children/></caseFileItem>`))
	wantError(t, api.ErrName, filed(`<caseFileItem definitionRef="n"/>`))
	wantError(t, api.ErrName, filed(`<caseFileItem name="a" definitionRef="n" targetRefs="a b"/>`))
	// No other character than the four blanks separates words.
	wantError(t, api.ErrName, filed(`<caseFileItem name="a" definitionRef="n" targetRefs="a&#160;a"/>`))
	wantError(t, api.ErrName, filed("<caseFileItem name=\"a\" definitionRef=\"n\" targetRefs=\"\u0085a\"/>"))
	wantError(t, api.ErrTwice, filed(`<caseFileItem name="a" definitionRef="n"/><caseFileItem name="a" definitionRef="n"/>`))
	wantError(t, api.ErrFull, filed(numbered(61, `<caseFileItem name="a@" definitionRef="n"/>`)))
}

func TestP15_1Multiplicity(t *testing.T) {
	for name, multi := range map[string]int{"ExactlyOne": api.MultiOne, "ZeroOrOne": api.MultiMaybe, "ZeroOrMore": api.MultiAny, "OneOrMore": api.MultiSome, "Unspecified": api.MultiAny, "": api.MultiAny} {
		wantModel(t, filed(`<caseFileItem name="a" multiplicity="`+name+`" definitionRef="n"/>`), withFiles(api.FileItem{Name: "a", Multi: multi}))
	}
	wantModel(t, filed(`<caseFileItem name="a" definitionRef="n"/>`), withFiles(api.FileItem{Name: "a", Multi: api.MultiAny}))
	for _, name := range []string{"Unknown", "exactlyOne", "ExactlyOne ", " ", "One", "1", "unspecified", "0", "ZeroOrMoreOneOrMore", "multiplicity"} {
		wantError(t, api.ErrModel, filed(`<caseFileItem name="a" multiplicity="`+name+`" definitionRef="n"/>`))
	}
}

// typed is a document with these definitions of case file items, and one item that refers to d.
func typed(definitions string) string {
	return defined(definitions + `<case id="m"><caseFileModel><caseFileItem name="a" definitionRef="d"/></caseFileModel><casePlanModel id="p"/></case>`)
}

func TestP15_1Types(t *testing.T) {
	want := func(kind int) api.Model { return withFiles(api.FileItem{Name: "a", Kind: kind, Multi: api.MultiAny}) }
	for name, kind := range map[string]int{"none": api.KindNone, "int": api.KindInt, "bool": api.KindBool, "string": api.KindText, "": api.KindNone} {
		wantModel(t, typed(`<caseFileItemDefinition id="d" definitionType="`+name+`"/>`), want(kind))
	}
	wantModel(t, typed(`<caseFileItemDefinition id="d"/>`), want(api.KindNone))
	wantModel(t, typed(`<caseFileItemDefinition id="c" definitionType="int"/><caseFileItemDefinition id="d" definitionType="bool"/><caseFileItemDefinition id="d" definitionType="int"/>`), want(api.KindBool))
	wantModel(t, typed(`<caseFileItemDefinition id="x" definitionType="wrong"/><caseFileItemDefinition id="d" definitionType="bool"/><caseFileItemDefinition id="d" definitionType="wrong"/>`), want(api.KindBool))
	for _, name := range []string{"text", "None", "int ", " ", "integer", "0", "1", "http://www.omg.org/spec/CMMN/DefinitionType/Unspecified"} {
		wantError(t, api.ErrModel, typed(`<caseFileItemDefinition id="d" definitionType="`+name+`"/>`))
	}
	for _, definitions := range []string{``, `<caseFileItemDefinition id="D"/>`, `<caseFileItemDefinition/>`, `<caseFileItemDefinition id="d "/>`, `<CaseFileItemDefinition id="d"/>`,
		`<humanTask id="d"/>`, `<caseFileItemDefinition id="c"><caseFileItemDefinition id="d"/></caseFileItemDefinition>`} {
		wantError(t, api.ErrNone, typed(definitions))
	}
	wantError(t, api.ErrNone, cased(`<caseFileItemDefinition id="d"/><caseFileModel><caseFileItemDefinition id="d"/><caseFileItem name="a" definitionRef="d"/></caseFileModel>`))
	// An attribute that is not there is one that is "".
	wantError(t, api.ErrNone, filed(`<caseFileItem name="a"/>`))
	wantModel(t, strings.ReplaceAll(typed(`<caseFileItemDefinition definitionType="int"/>`), ` definitionRef="d"`, ``), want(api.KindInt))
}

// What is of another namespace is not there, neither are attributes with a namespace.
func TestP15_1Foreign(t *testing.T) {
	wantModel(t, `<!-- a comment --><c:definitions xmlns:c="`+space+`" xmlns="urn:x" xmlns:y="urn:y" y:id="z" author="me">
		<case id="n"><c:case id="n"><c:casePlanModel id="n"/></c:case></case><caseFileItemDefinition id="d" definitionType="bool"/>
		<c:caseFileItemDefinition y:id="d" id="e" definitionType="string"/><c:caseFileItemDefinition id="d" y:definitionType="string" definitionType="int"/>
		<c:case y:name="N" id="m"> some text <c:extensionElements><c:casePlanModel/></c:extensionElements><casePlanModel/><caseFileModel/>
		<c:caseFileModel><caseFileItem/><c:caseFileItem c:name="b" name="a" definitionRef="d" y:multiplicity="x" y:targetRefs="b"><children/><c:children/></c:caseFileItem></c:caseFileModel><caseRoles/>
		<c:casePlanModel id="p" y:autoComplete="x"><planItem/><sentry id="s"/><humanTask id="h"/><planningTable/><exitCriterion/>
		<c:planItem id="t" definitionRef="h" y:definitionRef="g"><itemControl/><c:itemControl><repetitionRule/><c:requiredRule><condition/></c:requiredRule></c:itemControl><entryCriterion/><c:entryCriterion sentryRef="s"/></c:planItem>
		<c:sentry y:id="s" id="r"/><c:sentry id="s"><planItemOnPart/><c:ifPart><condition/><c:condition y:language="z"><body/>before<c:body>true</c:body></c:condition></c:ifPart><ifPart/></c:sentry>
		<c:timerEventListener y:id="h" id="g"/><c:caseTask id="h" y:isBlocking="x" y:name="b" y:roleRefs="r"><timerExpression>1</timerExpression></c:caseTask>
		<c:planningTable><discretionaryItem/></c:planningTable></c:casePlanModel></c:case></c:definitions>`,
		api.Model{ID: "m", Files: []api.FileItem{{Name: "a", Kind: api.KindInt, Multi: api.MultiAny}}, Plan: api.Item{ID: "p", Kids: []api.Item{{ID: "t", Kind: api.ItemCase, Required: "true", Entry: []api.Sentry{waits("true")}}}}})
}

func xmlOf(text string) (api.Element, int, api.Errno) { return xmltree.Parse([]byte(text)) }
