package repo_test

import (
	"math/rand"
	"reflect"
	"slices"
	"strconv"
	"strings"
	"testing"

	"dossier/api"
	"dossier/repo"
	"dossier/show"
)

// rich is a document with something of every kind in it.
const rich = head + `<caseFileItemDefinition id="n" definitionType="int"/><case id="rich" name="Rich &amp; long">
<caseRoles><role id="boss"/><role id="clerk"/></caseRoles>
<caseFileModel><caseFileItem id="f" name="order" multiplicity="ZeroOrMore" definitionRef="n"><children><caseFileItem id="g" name="total" definitionRef="n" targetRefs="order"/></children></caseFileItem></caseFileModel>
<casePlanModel id="plan" autoComplete="true"><exitCriterion sentryRef="x"/><sentry id="x"><caseFileItemOnPart sourceRef="g"><standardEvent>update</standardEvent></caseFileItemOnPart></sentry>
<planItem id="s" definitionRef="d"><itemControl><repetitionRule/><requiredRule><condition><body>count(order) &lt; 3</body></condition></requiredRule></itemControl></planItem>
<stage id="d" name="Stage"><planItem id="t" definitionRef="e"/><planningTable><discretionaryItem id="u" definitionRef="f"><entryCriterion sentryRef="y"/></discretionaryItem></planningTable>
<sentry id="y"><planItemOnPart sourceRef="t"><standardEvent>occur</standardEvent></planItemOnPart><ifPart><condition><body>true</body></condition></ifPart></sentry>
<timerEventListener id="e"><timerExpression>5</timerExpression></timerEventListener><humanTask id="f" isBlocking="false" roleRefs="clerk"/></stage>
</casePlanModel></case></definitions>`

func pick[T any](r *rand.Rand, l ...T) T { return l[r.Intn(len(l))] }

// someModel is a random one with an ID. Each item is below one of the stages with a smaller number.
func someModel(r *rand.Rand, id string) api.Model {
	m := api.Model{ID: id, Name: pick(r, "", "A <name>", "\"&'"), Roles: []string{"a", "b", "c"}[:r.Intn(4)]}
	m.Files = []api.FileItem{{Name: "f", Kind: r.Intn(4), Multi: r.Intn(4), Kids: []api.FileItem{{Name: "g", Kind: r.Intn(4), Refs: pick(r, nil, []string{"f.g", "f"})}}}}[:r.Intn(2)]
	items := make([]api.Item, 1+r.Intn(12))
	for k := range items {
		items[k] = api.Item{ID: "i" + strconv.Itoa(k), Kind: pick(r, 0, 0, 0, 0, 0, 1, 2, 3, 4, 5, 6, 7), Name: pick(r, "", "Name")}
		furnish(r, m, &items[k], k)
	}
	items[0].Kind, items[0].After, items[0].Free, items[0].Roles, items[0].Entry, items[0].Repeat = api.ItemStage, 0, false, nil, nil, ""
	for k := len(items) - 1; k > 0; k-- {
		up := &items[0]
		for s := range items[:k] {
			if items[s].Kind == api.ItemStage && r.Intn(3) == 0 {
				up = &items[s]
			}
		}
		list := pick(r, &up.Kids, &up.Kids, &up.Table)
		*list = append(*list, items[k])
	}
	m.Plan = items[0]
	return m
}

// furnish gives the item of a number what its kind may have.
func furnish(r *rand.Rand, m api.Model, i *api.Item, number int) {
	if number > 0 && i.Kind <= api.ItemMilestone {
		i.Repeat = pick(r, "", "true", "number(i0, active) < 2")
		for range r.Intn(3) {
			i.Entry = append(i.Entry, api.Sentry{If: pick(r, "true", "1 < 2"), On: pick(r, nil, []api.OnPart{{Item: "i0", Event: pick(r, api.EvComplete, api.EvExit)}})})
		}
	}
	switch {
	case i.Kind == api.ItemTimer:
		i.After = 1 + r.Intn(99)
	case i.Kind == api.ItemStage:
		i.Auto = r.Intn(2) == 0
	case i.Kind < api.ItemMilestone:
		i.Free = r.Intn(2) == 0
		i.Roles = slices.Clone(m.Roles[:r.Intn(len(m.Roles)+1)])
	}
}

func TestP31_3Random(t *testing.T) {
	r := rand.New(rand.NewSource(31))
	items := 0
	for range 200 {
		one, printed := repo.New(), []string(nil)
		for k := range 1 + r.Intn(api.MaxModels) {
			m := someModel(r, pick(r, "m", "M", "_")+strconv.Itoa(r.Intn(4)))
			b, err := show.Print(m)
			if err != api.OK {
				t.Fatal(k, m, err)
			}
			_, known := one.Model(m.ID)
			want, id := api.OK, m.ID
			if known {
				want, id = api.ErrKnown, ""
			} else {
				printed = append(printed, string(b))
				items += strings.Count(string(b), "definitionRef")
			}
			// The white space and the declaration are not those of the printed document.
			b = []byte("<?xml version='1.0'?>\n" + strings.ReplaceAll(string(b), "><case ", ">\n <case ") + "<!-- end -->")
			if got, at, err := one.Deploy(b); got != id || at != 0 || err != want {
				t.Fatal(got, at, err)
			}
		}
		got := of(t, one)
		if !slices.Equal(got.Documents, printed) {
			t.Fatal(got.Documents, printed)
		}
		for _, m := range got.Models {
			if b, err := show.Print(m); err != api.OK || !slices.Contains(printed, string(b)) {
				t.Fatal(m, err)
			}
		}
		for _, other := range []*repo.Repo{deployed(t, got.Documents...), one.Copy()} {
			if !reflect.DeepEqual(of(t, other), got) {
				t.Fatal("the contents differ")
			}
		}
	}
	if items < 3000 {
		t.Error("too few items:", items)
	}
}
