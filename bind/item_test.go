package bind

import (
	"reflect"
	"strconv"
	"strings"
	"testing"

	"dossier/api"
	"dossier/model"
)

func kinds() map[string]int {
	return map[string]int{"stage": 0, "humanTask": 1, "processTask": 2, "caseTask": 3, "decisionTask": 4, "milestone": 5, "userEventListener": 6, "timerEventListener": 7}
}

func TestP15_2Plan(t *testing.T) {
	for value, is := range map[string]bool{"": false, ` autoComplete=""`: false, ` autoComplete="false"`: false, ` autoComplete="true"`: true} {
		m := plan()
		m.Plan.Name, m.Plan.Auto = "n", is
		wantModel(t, defined(`<case id="m"><casePlanModel id="p" name="n"`+value+`/></case>`), m)
	}
	for _, value := range []string{"True", "TRUE", "1", "0", " ", "true ", "yes", "falsetrue"} {
		wantError(t, api.ErrModel, defined(`<case id="m"><casePlanModel id="p" autoComplete="`+value+`"/></case>`))
		wantError(t, api.ErrModel, planned(`<planItem id="t" definitionRef="d"/><stage id="d" autoComplete="`+value+`"/>`))
		// Nothing but stages has this attribute.
		wantModel(t, planned(`<planItem id="t" definitionRef="d" autoComplete="`+value+`"/><humanTask id="d" autoComplete="`+value+`"/><stage id="e" autoComplete="`+value+`"/>`), plan(task("t")))
	}
	// The plan is no item that another one uses.
	wantModel(t, defined(`<case id="m" autoComplete="x"><casePlanModel id="p" roleRefs="r" isBlocking="false" definitionRef="x"><entryCriterion/><itemControl/><itemControl/><timerExpression/></casePlanModel></case>`), plan())
}

func TestP15_2Kinds(t *testing.T) {
	for name, kind := range kinds() {
		inner := ""
		i := api.Item{ID: "t", Name: "A name", Kind: kind}
		if kind == api.ItemTimer {
			inner, i.After = `<timerExpression>7</timerExpression>`, 7
		}
		definition := `<` + name + ` id="d" name="A name">` + inner + `</` + name + `>`
		wantModel(t, planned(`<planItem name="other" id="t" definitionRef="d"/>`+definition), plan(i))
		m := plan()
		m.Plan.Table = []api.Item{i}
		wantModel(t, planned(`<planningTable id="x">`+definition+`<discretionaryItem name="other" id="t" definitionRef="d"/><planItem id="u" definitionRef="e"/></planningTable>`+definition), m)
	}
	for _, name := range []string{"task", "Stage", "casePlanModel", "planItem", "eventListener", "planFragment", "timer", "sentry", "x"} {
		wantError(t, api.ErrNone, planned(`<planItem id="t" definitionRef="d"/><`+name+` id="d"/>`))
	}
}

func TestP15_2Definitions(t *testing.T) {
	use := `<planItem id="t" definitionRef="d"/>`
	// The first one of its stage counts, whatever its kind is.
	wantModel(t, planned(`<milestone id="c"/>`+use+`<task id="d"/><milestone id="d" name="first"/><humanTask id="d"/>`), plan(api.Item{ID: "t", Name: "first", Kind: api.ItemMilestone}))
	wantModel(t, planned(`<humanTask id="d" name="first"/><milestone id="d"/>`+use), plan(api.Item{ID: "t", Name: "first", Kind: api.ItemHuman}))
	wantModel(t, planned(`<stage id="d" name="first"/><stage id="d" autoComplete="x"/>`+use), plan(api.Item{ID: "t", Name: "first"}))
	wantModel(t, planned(use+`<planItem id="u" definitionRef="d"/><humanTask id="d" name="n"/>`), plan(api.Item{ID: "t", Name: "n", Kind: api.ItemHuman}, api.Item{ID: "u", Name: "n", Kind: api.ItemHuman}))
	for _, text := range []string{
		planned(use), planned(use + `<humanTask id="D"/>`), planned(use + `<humanTask/>`), planned(use + `<stage id="e"><humanTask id="d"/></stage>`), planned(use + `<planningTable><humanTask id="d"/></planningTable>`),
		defined(`<humanTask id="d"/><case id="m"><humanTask id="d"/><casePlanModel id="p">` + use + `</casePlanModel><humanTask id="d"/></case>`),
		planned(`<humanTask id="d"/><planItem id="s" definitionRef="e"/><stage id="e">` + use + `</stage>`),
		planned(`<planItem id="s" definitionRef="e"/><stage id="e">` + use + `<stage id="f"><humanTask id="d"/></stage></stage>`),
		planned(`<planningTable><discretionaryItem id="t" definitionRef="d"/></planningTable>`),
		planned(`<planItem id="t"/><humanTask id="d"/>`),
	} {
		wantError(t, api.ErrNone, text)
	}
	wantModel(t, planned(`<planItem id="t"/><humanTask/>`), plan(task("t")))
	wantError(t, api.ErrName, planned(`<planItem definitionRef="d"/><humanTask id="d"/>`))
	wantError(t, api.ErrTwice, planned(use+use+`<humanTask id="d"/>`))
}

func TestP15_2Stages(t *testing.T) {
	m := plan(
		api.Item{ID: "s", Name: "S", Auto: true, Kids: []api.Item{task("a"), {ID: "n", Kids: []api.Item{{ID: "c", Kind: api.ItemDecision}}}}, Table: []api.Item{{ID: "b", Kind: api.ItemCase}}},
		task("t"))
	m.Plan.Table = []api.Item{{ID: "u", Kids: []api.Item{{ID: "x", Kind: api.ItemListener}}}, {ID: "v", Kind: api.ItemMilestone}}
	wantModel(t, planned(`<planningTable><discretionaryItem id="u" definitionRef="du"/><discretionaryItem id="v" definitionRef="dv"/></planningTable><milestone id="dv"/>
		<stage id="ds" name="S" autoComplete="true"><planningTable><discretionaryItem id="b" definitionRef="d"/></planningTable><planItem id="a" definitionRef="e"/>
		<caseTask id="d"/><humanTask id="e"/><planItem id="n" definitionRef="n"/><stage id="n" autoComplete=""><planItem id="c" definitionRef="d"/><decisionTask id="d"/></stage></stage>
		<planItem id="s" definitionRef="ds"/><humanTask id="d"/><stage id="unused"><planItem id="x" definitionRef="none"/><planningTable/><planningTable/></stage>
		<stage id="du"><planItem id="x" definitionRef="y"/><userEventListener id="y"/></stage><planItem id="t" definitionRef="d"/>`), m)
	wantError(t, api.ErrModel, planned(`<planningTable/><planningTable/>`))
	wantError(t, api.ErrModel, planned(`<planItem id="s" definitionRef="d"/><stage id="d"><planningTable/><planningTable/></stage>`))
	// Tasks have no contents.
	wantModel(t, planned(`<planItem id="t" definitionRef="d"/><humanTask id="d"><planItem id="u" definitionRef="x"/><planningTable/><planningTable/></humanTask>`), plan(task("t")))
}

func TestP15_2Roles(t *testing.T) {
	roles := `<caseRoles><role id="a"/><role id="b"/></caseRoles>`
	text := func(inner string) string {
		return strings.Replace(planned(inner), `<casePlanModel`, roles+`<casePlanModel`, 1)
	}
	m := plan(api.Item{ID: "t", Kind: api.ItemHuman, Roles: []string{"b", "a"}}, api.Item{ID: "l", Kind: api.ItemListener, Roles: []string{"a"}}, api.Item{ID: "s", Roles: []string{"a"}}, task("u"))
	m.Roles = []string{"a", "b"}
	wantModel(t, text(`<planItem id="t" definitionRef="dt" roleRefs="c"/><planItem id="l" definitionRef="dl"/><planItem id="s" definitionRef="ds"/><planItem id="u" definitionRef="du"/>
		<humanTask id="dt" roleRefs="&#13;b &#9;&#10; a"/><userEventListener id="dl" roleRefs="a"/><stage id="ds" roleRefs="a "/><humanTask id="du" roleRefs="  "/>`), m)
	for refs, want := range map[string]api.Errno{"c": api.ErrName, "a a": api.ErrTwice, "a&#160;b": api.ErrName, "a,b": api.ErrName, "a\u2003b": api.ErrName, "c c c c c c c c c": api.ErrFull} {
		wantError(t, want, text(`<planItem id="t" definitionRef="d"/><humanTask id="d" roleRefs="`+refs+`"/>`))
	}
	wantError(t, api.ErrModel, text(`<planItem id="t" definitionRef="d"/><milestone id="d" roleRefs="a"/>`))
}

func TestP15_2Free(t *testing.T) {
	for value, is := range map[string]bool{"": false, ` isBlocking=""`: false, ` isBlocking="true"`: false, ` isBlocking="false"`: true} {
		wantModel(t, planned(`<planItem id="t" definitionRef="d" isBlocking="x"/><processTask id="d"`+value+`/>`), plan(api.Item{ID: "t", Kind: api.ItemProcess, Free: is}))
	}
	for name := range kinds() {
		for _, value := range []string{"False", "0", " ", "false ", "no"} {
			wantError(t, api.ErrModel, planned(`<planItem id="t" definitionRef="d"/><`+name+` id="d" isBlocking="`+value+`"><timerExpression>x</timerExpression></`+name+`>`))
		}
	}
	wantError(t, api.ErrModel, planned(`<planItem id="t" definitionRef="d"/><milestone id="d" isBlocking="false"/>`))
	wantModel(t, planned(`<planItem id="t" definitionRef="d"/><milestone id="d" isBlocking="true"/>`), plan(api.Item{ID: "t", Kind: api.ItemMilestone}))
}

func timed(inner string) string {
	return planned(`<planItem id="w" definitionRef="d"><timerExpression>x</timerExpression></planItem><timerEventListener id="d">` + inner + `</timerEventListener>`)
}

func TestP15_2After(t *testing.T) {
	for text, n := range map[string]int{"1": 1, "10": 10, "2147483648": 1 << 31, "&#49;0": 10, "<![CDATA[5]]>": 5, "1<!-- -->2": 12} {
		wantModel(t, timed(`<timerExpression language="x">`+text+`</timerExpression>`), plan(api.Item{ID: "w", Kind: api.ItemTimer, After: n}))
	}
	for _, text := range []string{"", " ", " 5", "5 ", "\n5\n", "05", "+5", "5s", "PT5M", "1.5", "-0", "0x5", "a > 1", "--5", "\u0665"} {
		wantError(t, api.ErrForm, timed(`<timerExpression>`+text+`</timerExpression>`))
	}
	wantError(t, api.ErrFull, timed(`<timerExpression>9223372036854775808</timerExpression>`))
	wantError(t, api.ErrFull, timed(`<timerExpression>-9223372036854775809</timerExpression>`))
	for _, text := range []string{"0", "-1", "2147483649", "9223372036854775807", "-9223372036854775808"} {
		wantError(t, api.ErrModel, timed(`<timerExpression>`+text+`</timerExpression>`))
	}
	wantError(t, api.ErrModel, timed(``))
	wantError(t, api.ErrModel, timed(`<timerExpression>1</timerExpression><timerExpression>1</timerExpression>`))
	wantError(t, api.ErrModel, timed(`<timerExpression>x</timerExpression><timerExpression>1</timerExpression>`))
	for name, kind := range kinds() {
		if kind != api.ItemTimer {
			wantError(t, api.ErrModel, planned(`<planItem id="t" definitionRef="d"/><`+name+` id="d"><timerExpression>1</timerExpression></`+name+`>`))
			wantError(t, api.ErrModel, planned(`<planItem id="t" definitionRef="d"/><`+name+` id="d"><timerExpression/></`+name+`>`))
		}
	}
}

func TestP15_2Rules(t *testing.T) {
	with := func(manual, required, repeat string) api.Model {
		i := task("t")
		i.Manual, i.Required, i.Repeat = manual, required, repeat
		return plan(i)
	}
	for inner, want := range map[string]api.Model{
		`<itemControl/>`: with("", "", ""), `<itemControl><rule/>true</itemControl>`: with("", "", ""),
		`<manualActivationRule/><itemControl/><requiredRule/><defaultControl><repetitionRule/></defaultControl>`: with("", "", ""),
		`<itemControl><repetitionRule/></itemControl>`:                                                           with("", "", "true"), `<itemControl><requiredRule id="x"/></itemControl>`: with("", "true", ""), `<itemControl><manualActivationRule> text </manualActivationRule></itemControl>`: with("true", "", ""),
		`<itemControl><manualActivationRule><condition><body>1 &lt; 2</body></condition></manualActivationRule><requiredRule><body>x</body></requiredRule><repetitionRule><condition language=""><body> false&#13;</body></condition></repetitionRule></itemControl>`: with("1 < 2", "true", " false\r"),
		`<itemControl><requiredRule><condition language="http://dossier/expression">x<body language="y">true</body>y</condition></requiredRule></itemControl>`:                                                                                                        with("", "true", ""),
		// A condition without a text is no rule.
		`<itemControl><requiredRule><condition><body/></condition></requiredRule></itemControl>`: with("", "", ""),
	} {
		wantModel(t, used(inner, ""), want)
	}
	wantModel(t, planned(`<planItem id="t" definitionRef="d"/><humanTask id="d"><itemControl><repetitionRule/></itemControl><itemControl/></humanTask>`), plan(task("t")))
	wantError(t, api.ErrModel, used(`<itemControl/><itemControl/>`, ""))
	for _, name := range []string{"repetitionRule", "requiredRule", "manualActivationRule"} {
		rule := func(inner string) string {
			return used(`<itemControl><`+name+`>`+inner+`</`+name+`></itemControl>`, "")
		}
		wantError(t, api.ErrModel, used(`<itemControl><`+name+`/><`+name+`/></itemControl>`, ""))
		wantConditions(t, rule)
		wantError(t, api.ErrKind, rule(`<condition><body>1</body></condition>`))
		wantError(t, api.ErrParse, rule(`<condition><body> </body></condition>`))
	}
}

// wantConditions holds what contains a condition to its errors.
func wantConditions(t *testing.T, text func(inner string) string) {
	t.Helper()
	body := `<body>true</body>`
	for _, inner := range []string{`<condition>` + body + `</condition><condition>` + body + `</condition>`, `<condition/>`, `<condition>true</condition>`, `<condition>` + body + body + `</condition>`, `<condition><body>1</body>` + body + `</condition>`,
		`<condition language="http://dossier/expression"/>`, `<condition language="x"/><condition/>`, `<condition><Body>true</Body></condition>`} {
		wantError(t, api.ErrModel, text(inner))
	}
	for _, language := range []string{"x", " ", "http://dossier/expression/", "http://dossier", "http://dossier/Expression", "http://www.w3.org/1999/XPath"} {
		wantError(t, api.ErrTongue, text(`<condition language="`+language+`">`+body+`</condition>`))
		wantError(t, api.ErrTongue, text(`<condition language="`+language+`"/>`))
	}
}

func TestP15_2Sentries(t *testing.T) {
	i := task("t")
	i.Entry, i.Exit = []api.Sentry{waits("1 < 2"), waits("true")}, []api.Sentry{waits("true"), waits("true")}
	wantModel(t, used(`<exitCriterion sentryRef="a"/><entryCriterion name="x" sentryRef="b"/><exitCriterion id="y" sentryRef="a"/><entryCriterion sentryRef="a"/>`,
		`<sentry id="a"><ifPart><condition><body>true</body></condition></ifPart></sentry><sentry id="a"><x/></sentry><sentry id="b"><ifPart><condition><body>1 &lt; 2</body></condition></ifPart></sentry><sentry id="c"><ifPart/><ifPart/></sentry>`), plan(i))
	sentry := `<sentry id="a"><ifPart><condition><body>true</body></condition></ifPart></sentry>`
	for _, name := range []string{"entryCriterion", "exitCriterion"} {
		criterion := `<` + name + ` sentryRef="a"/>`
		for _, text := range []string{
			used(criterion, ``), used(criterion, `<sentry id="A"/>`), used(criterion, `<sentry/>`), used(criterion+sentry, ``), used(criterion, `<stage id="e">`+sentry+`</stage>`), used(criterion, `<planningTable>`+sentry+`</planningTable>`),
			used(criterion, `<Sentry id="a"/>`), used(`<`+name+`/>`, sentry), used(`<`+name+` sentryRef=""/>`, sentry), planned(`<humanTask id="d">` + sentry + `</humanTask><planItem id="t" definitionRef="d">` + criterion + `</planItem>`),
			planned(sentry + `<planItem id="s" definitionRef="e"/><stage id="e"><planItem id="t" definitionRef="d">` + criterion + `</planItem><humanTask id="d"/></stage>`),
			planned(`<planningTable><discretionaryItem id="t" definitionRef="d">` + criterion + `</discretionaryItem></planningTable><humanTask id="d">` + sentry + `</humanTask>`),
		} {
			wantError(t, api.ErrNone, text)
		}
		wantError(t, api.ErrFull, used(strings.Repeat(criterion, 9), sentry))
	}
	// Items of a table have those of the stage around it, a stage that is used has those of the stage where it is used.
	guarded := func(i api.Item) api.Item {
		i.Entry = []api.Sentry{waits("true")}
		return i
	}
	m := plan(guarded(api.Item{ID: "s"}))
	m.Plan.Table = []api.Item{guarded(task("t"))}
	wantModel(t, planned(sentry+`<planItem id="s" definitionRef="e"><entryCriterion sentryRef="a"/></planItem><stage id="e"><exitCriterion/><entryCriterion/><sentry id="a"/></stage>
		<planningTable><discretionaryItem id="t" definitionRef="d"><entryCriterion sentryRef="a"/></discretionaryItem></planningTable><humanTask id="d"/>`), m)
}

func TestP15_2PlanExit(t *testing.T) {
	m := plan(task("t"))
	m.Plan.Exit = []api.Sentry{waits("", on("t", api.EvFault)), waits("true")}
	wantModel(t, used("", `<sentry id="b"><ifPart><condition><body>true</body></condition></ifPart></sentry><exitCriterion sentryRef="a"/><exitCriterion sentryRef="b"/>
		<sentry id="a"><planItemOnPart sourceRef="t"><standardEvent>fault</standardEvent></planItemOnPart></sentry>`), m)
	wantError(t, api.ErrNone, planned(`<exitCriterion sentryRef="a"/><stage id="d"><sentry id="a"/></stage>`))
	wantError(t, api.ErrNone, defined(`<sentry id="a"/><case id="m"><sentry id="a"/><casePlanModel id="p"><exitCriterion sentryRef="a"/></casePlanModel></case>`))
}

// guarded is a document whose task t exits by a sentry with this in it; there are a task u, and definitions x (a), y (a.b), y again (c) and z (c.d).
func guarded(inner string) string {
	text := used(`<exitCriterion sentryRef="s"/>`, `<sentry id="s">`+inner+`</sentry><planItem id="u" definitionRef="d"/>`)
	return strings.Replace(text, `<case id="m">`, `<caseFileItemDefinition id="n"/><case id="m"><caseFileModel><caseFileItem id="x" name="a" definitionRef="n"><children><caseFileItem id="y" name="b" definitionRef="n"/></children></caseFileItem>
		<caseFileItem id="y" name="c" definitionRef="n"><children><caseFileItem id="z" name="d" definitionRef="n"/></children></caseFileItem><caseFileItem id="z" name="e" definitionRef="n"/></caseFileModel>`, 1)
}

func guardedModel(s api.Sentry) api.Model {
	i := task("t")
	i.Exit = []api.Sentry{s}
	m := plan(i, task("u"))
	m.Files = []api.FileItem{{Name: "a", Multi: 2, Kids: []api.FileItem{{Name: "b", Multi: 2}}}, {Name: "c", Multi: 2, Kids: []api.FileItem{{Name: "d", Multi: 2}}}, {Name: "e", Multi: 2}}
	return m
}

func TestP15_2OnParts(t *testing.T) {
	wantModel(t, guarded(`<caseFileItemOnPart sourceRef="y"><standardEvent>update</standardEvent></caseFileItemOnPart><planItemOnPart sourceRef="u" exitCriterionRef="x"><standardEvent>exit</standardEvent></planItemOnPart>
		<ifPart/><onPart/><caseFileItemOnPart sourceRef="z"><standardEvent>&#99;reate</standardEvent></caseFileItemOnPart><planItemOnPart sourceRef="p"><standardEvent>complete</standardEvent></planItemOnPart>
		<caseFileItemOnPart sourceRef="x"><standardEvent>delete</standardEvent></caseFileItemOnPart>`),
		guardedModel(waits("", onFiles("a.b", api.EvUpdate), on("u", api.EvExit), onFiles("c.d", api.EvCreate), on("p", api.EvComplete), onFiles("a", api.EvDelete))))
	for event := range api.EvCutRef + 1 {
		text := `<standardEvent>` + model.EventName(event) + `</standardEvent>`
		if model.Events(api.ItemHuman, event) {
			wantModel(t, guarded(`<planItemOnPart sourceRef="u">`+text+`</planItemOnPart>`), guardedModel(waits("", on("u", event))))
		} else {
			wantError(t, api.ErrModel, guarded(`<planItemOnPart sourceRef="u">`+text+`</planItemOnPart>`))
		}
		if model.FileEvent(event) {
			wantModel(t, guarded(`<caseFileItemOnPart sourceRef="z">`+text+`</caseFileItemOnPart>`), guardedModel(waits("", onFiles("c.d", event))))
		} else {
			wantError(t, api.ErrModel, guarded(`<caseFileItemOnPart sourceRef="z">`+text+`</caseFileItemOnPart>`))
		}
	}
	exit := `<standardEvent>exit</standardEvent>`
	for inner, want := range map[string]api.Errno{
		`<caseFileItemOnPart sourceRef="q"><standardEvent>update</standardEvent></caseFileItemOnPart>`: api.ErrNone, `<caseFileItemOnPart sourceRef="a"><standardEvent>update</standardEvent></caseFileItemOnPart>`: api.ErrNone,
		`<caseFileItemOnPart><standardEvent>update</standardEvent></caseFileItemOnPart>`: api.ErrNone, `<caseFileItemOnPart sourceRef="u"><standardEvent>wrong</standardEvent></caseFileItemOnPart>`: api.ErrNone,
		`<planItemOnPart sourceRef="q">` + exit + `</planItemOnPart>`: api.ErrName, `<planItemOnPart sourceRef="d">` + exit + `</planItemOnPart>`: api.ErrName, `<planItemOnPart sourceRef=" u">` + exit + `</planItemOnPart>`: api.ErrName,
		`<planItemOnPart>` + exit + `</planItemOnPart>`: api.ErrModel, `<planItemOnPart sourceRef="t">` + exit + `</planItemOnPart>`: api.ErrModel,
		`<planItemOnPart sourceRef="q"/>`: api.ErrModel, `<planItemOnPart sourceRef="u">exit</planItemOnPart>`: api.ErrModel, `<planItemOnPart sourceRef="u">` + exit + exit + `</planItemOnPart>`: api.ErrModel,
		`<planItemOnPart sourceRef="q"><standardEvent> exit</standardEvent></planItemOnPart>`: api.ErrModel, `<planItemOnPart sourceRef="q"><standardEvent>Exit</standardEvent></planItemOnPart>`: api.ErrModel, `<planItemOnPart sourceRef="q"><standardEvent/></planItemOnPart>`: api.ErrModel,
		``: api.ErrModel, strings.Repeat(`<planItemOnPart sourceRef="u">`+exit+`</planItemOnPart>`, 9): api.ErrFull,
	} {
		wantError(t, want, guarded(inner))
	}
}

func TestP15_2If(t *testing.T) {
	exit := `<planItemOnPart sourceRef="u"><standardEvent>exit</standardEvent></planItemOnPart>`
	for inner, want := range map[string]string{``: "", `<ifPart/>`: "", `<ifPart>true<body>true</body></ifPart>`: "", `<condition><body>true</body></condition>`: "", `<ifPart><condition><body/></condition></ifPart>`: "",
		`<ifPart id="x"><condition language="http://dossier/expression"><body>count(a) &gt; 1</body></condition></ifPart>`: "count(a) > 1"} {
		wantModel(t, guarded(inner+exit), guardedModel(waits(want, on("u", api.EvExit))))
	}
	wantError(t, api.ErrModel, guarded(exit+`<ifPart/><ifPart/>`))
	wantError(t, api.ErrModel, guarded(`<ifPart/>`))
	wantConditions(t, func(inner string) string { return guarded(`<ifPart>` + inner + `</ifPart>`) })
}

// tower is a definitions element with so many stages, one inside the other, around an item of a kind with this in it. Every other stage is in a table.
func tower(stages int, kind string, inner ...api.Element) api.Element {
	e := api.Element{Space: space, Name: kind, Attrs: []api.Pair{{Name: "id", Value: "d"}}, Kids: inner}
	for k := range stages {
		use := api.Element{Space: space, Name: "planItem", Attrs: []api.Pair{{Name: "id", Value: "i" + strconv.Itoa(k)}, {Name: "definitionRef", Value: "d"}}}
		if k%2 == 0 {
			use.Name = "discretionaryItem"
			use = api.Element{Space: space, Name: "planningTable", Kids: []api.Element{use}}
		}
		e = api.Element{Space: space, Name: "stage", Attrs: []api.Pair{{Name: "id", Value: "d"}}, Kids: []api.Element{use, e}}
	}
	e.Name = "casePlanModel"
	c := api.Element{Space: space, Name: "case", Attrs: []api.Pair{{Name: "id", Value: "m"}}, Kids: []api.Element{e}}
	return api.Element{Space: space, Name: "definitions", Kids: []api.Element{c}}
}

// The plan is at depth 1.
func TestP15_2Depth(t *testing.T) {
	timer := api.Element{Space: space, Name: "timerExpression", Text: "x"}
	for what, x := range map[string]struct {
		e   api.Element
		err api.Errno
	}{
		"24": {tower(23, "humanTask"), api.OK}, "25": {tower(24, "humanTask"), api.ErrFull}, "26": {tower(25, "humanTask"), api.ErrFull}, "24 stages": {tower(23, "stage"), api.OK}, "60000": {tower(60000, "humanTask"), api.ErrFull},
		"24 with an error": {tower(23, "timerEventListener", timer), api.ErrForm}, "25 with an error": {tower(24, "timerEventListener", timer), api.ErrFull}, "26 with an error": {tower(25, "timerEventListener", timer), api.ErrFull},
		"25 without a definition": {tower(24, "x"), api.ErrNone}, "26 without a definition": {tower(25, "x"), api.ErrFull},
	} {
		m, err := Model(x.e)
		if err != x.err || (err == api.OK) != (m.ID == "m") {
			t.Errorf("%s: error %d, want error %d", what, err, x.err)
		}
		if levels := len(model.Way(m, "i0")); err == api.OK && levels != 23 {
			t.Errorf("%s: %d levels", what, levels)
		}
	}
}

// bomb is a document with so many stages, one inside the other, each of which is used so often by the one around it.
func bomb(stages, uses int, inner string) string {
	for k := range stages {
		inner = strings.Repeat(`<planItem id="i`+strconv.Itoa(k)+`" definitionRef="d"/>`, uses) + `<stage id="d">` + inner + `</stage>`
	}
	return planned(inner)
}

// Of definitions that are used again and again there are more items than can be told.
func TestP15_2Bomb(t *testing.T) {
	for _, uses := range []int{2, 3, 50, 70} {
		text := bomb(20, uses, "")
		wantError(t, api.ErrFull, text)
		wantError(t, api.ErrNone, bomb(20, min(uses, 50), `<planItem id="t" definitionRef="none"/>`))
		wantError(t, api.ErrForm, bomb(19, min(uses, 50), `<planItem id="t" definitionRef="w"/><timerEventListener id="w"><timerExpression>x</timerExpression></timerEventListener>`))
		wantError(t, api.ErrName, strings.Replace(text, `<case id="m"`, `<case id="not"`, 1))
		wantError(t, api.ErrModel, strings.Replace(text, `<casePlanModel id="p">`, `<casePlanModel id="p"><planningTable/><planningTable/>`, 1))
	}
	// 1 + 2 + .. + 2^6 = 127 items are not too many, but some have one ID.
	wantError(t, api.ErrTwice, bomb(6, 2, ""))
	wantError(t, api.ErrFull, bomb(7, 2, ""))
	// 1 + 2 + 1 + 98 + 98 items are 200, 1 + 2 + 99 + 99 one more.
	row := func(n int) string {
		return numbered(n, `<planItem id="t@" definitionRef="h"/>`) + `<humanTask id="h"/>`
	}
	twice := `<planItem id="r" definitionRef="d"/><planItem id="s" definitionRef="d"/>`
	wantError(t, api.ErrTwice, planned(twice+`<planItem id="u" definitionRef="h"/><humanTask id="h"/><stage id="d">`+row(98)+`</stage>`))
	wantError(t, api.ErrFull, planned(twice+`<stage id="d">`+row(99)+`</stage>`))
	// The plan, r with 99, 98 in the table, and s in the table are 200, but s has 99 too.
	wantError(t, api.ErrFull, planned(`<planItem id="r" definitionRef="d"/><stage id="d">`+row(99)+`</stage><humanTask id="h"/>
		<planningTable>`+numbered(98, `<discretionaryItem id="u@" definitionRef="h"/>`)+`<discretionaryItem id="s" definitionRef="d"/></planningTable>`))
}

// Elements made by hand can be wide, and deep.
func TestP15_1Huge(t *testing.T) {
	wide := api.Element{Space: space, Name: "caseFileModel"}
	deep := wide
	for k := range 50000 {
		wide.Kids = append(wide.Kids, api.Element{Space: space, Name: "caseFileItem", Attrs: []api.Pair{{Name: "name", Value: "n" + strconv.Itoa(k)}, {Name: "definitionRef", Value: "n"}}})
	}
	for range 30000 {
		item := api.Element{Space: space, Name: "caseFileItem", Attrs: []api.Pair{{Name: "name", Value: "n"}, {Name: "definitionRef", Value: "n"}}, Kids: []api.Element{deep}}
		item.Kids[0].Name = "children"
		deep = api.Element{Space: space, Name: "caseFileModel", Kids: []api.Element{item}}
	}
	for _, files := range []api.Element{wide, deep} {
		e, _, _ := xmlOf(cased(``))
		e.Kids[0].Kids = append(e.Kids[0].Kids, files)
		e.Kids = append(e.Kids, api.Element{Space: space, Name: "caseFileItemDefinition", Attrs: []api.Pair{{Name: "id", Value: "n"}}})
		if m, err := Model(e); err != api.ErrFull || !reflect.DeepEqual(m, api.Model{}) {
			t.Error("error", err)
		}
	}
	e, _, _ := xmlOf(planned(`<humanTask id="h"/>`))
	p := &e.Kids[0].Kids[0]
	for k := range 50000 {
		id := strconv.Itoa(k)
		p.Kids = append(p.Kids, api.Element{Space: space, Name: "planItem", Attrs: []api.Pair{{Name: "id", Value: id}, {Name: "definitionRef", Value: "d" + id}}}, api.Element{Space: space, Name: "milestone", Attrs: []api.Pair{{Name: "id", Value: "d" + id}}})
	}
	if m, err := Model(e); err != api.ErrFull || !reflect.DeepEqual(m, api.Model{}) {
		t.Error("error", err)
	}
}
