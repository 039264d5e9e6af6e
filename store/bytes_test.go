package store_test

import (
	"encoding/binary"
	"slices"
	"strconv"
	"strings"
	"testing"

	"dossier/api"
	"dossier/codec"
	"dossier/store"
)

// A picture is what the bytes of a store tell, in their order.
type picture struct {
	most      int
	models    int
	documents []string
	count     int
	cases     []api.Case
}

// pictured is one in which the numbers are right.
func pictured(most int, documents []string, cases []api.Case) picture {
	return picture{most, len(documents), documents, len(cases), cases}
}

func (p picture) bytes() []byte {
	b := binary.AppendVarint(nil, int64(p.most))
	b = binary.AppendVarint(b, int64(p.models))
	for _, s := range p.documents {
		b = append(binary.AppendVarint(b, int64(len(s))), s...)
	}
	b = binary.AppendVarint(b, int64(p.count))
	for _, c := range p.cases {
		b = append(b, codec.Case(nil, c)...)
	}
	return b
}

// inst is a case with an instance of the plan.
func inst(id int, model string) api.Case {
	return api.Case{ID: id, Model: model, Insts: []api.Inst{{Path: "p.1", Item: "p", State: api.Active}}}
}

// smalls are documents of n models.
func smalls(n int) []string {
	var l []string
	for k := range n {
		l = append(l, document(small("m"+strconv.Itoa((7*k+3)%11))))
	}
	return l
}

// insts are n cases of the first of these.
func insts(n int) []api.Case {
	var l []api.Case
	for k := range n {
		l = append(l, inst(k+1, "m3"))
	}
	return l
}

func TestP32_2EncodeEmpty(t *testing.T) {
	for most, want := range map[int][]byte{1: {2, 0, 0}, 63: {126, 0, 0}, 64: {128, 1, 0, 0}, 300: {216, 4, 0, 0}} {
		if got := stored(t, most).Encode(); !slices.Equal(got, want) {
			t.Errorf("%d: %v", most, got)
		}
		if s, err := store.Decode(want); err != api.OK || s.Most() != most || len(s.Do(api.Command{Verb: api.VerbList}, nil).Names) != 0 {
			t.Errorf("%d: %v", most, err)
		}
	}
}

func TestP32_2Encode(t *testing.T) {
	s := stored(t, 9, deploy(" "+document(small("m"))), create("", "m"))
	text := document(small("m"))
	want := binary.AppendVarint([]byte{18, 2}, int64(len(text)))
	want = append(append(want, text...), 2, 2, 2, 'm', 0, 2, 6, 'p', '.', '1', 2, 'p', 14, 0, 0, 0, 0)
	if got := s.Encode(); !slices.Equal(got, want) {
		t.Errorf("%q\n%q", got, want)
	}
	c := inst(1, "m")
	c.Insts[0].State = api.Completed
	if got := pictured(9, []string{text}, []api.Case{c}).bytes(); !slices.Equal(got, want) {
		t.Errorf("%q\n%q", got, want)
	}
}

func TestP32_2EncodeMany(t *testing.T) {
	s := stored(t, 20)
	p := pictured(20, nil, nil)
	for k := range api.MaxModels {
		m := office()
		m.ID = "m" + strconv.Itoa((7*k+3)%11)
		s.Do(deploy(document(m)), nil)
		p.documents, p.models = append(p.documents, document(m)), k+1
		for range 2 {
			a := s.Do(create("", m.ID), nil)
			s.Do(tick(a.Case, a.Case), nil)
			p.cases, p.count = append(p.cases, stateOf(t, s, a.Case)), a.Case
		}
		if b := s.Encode(); !slices.Equal(b, p.bytes()) {
			t.Fatal(k, b)
		}
		d, err := store.Decode(p.bytes())
		if err != api.OK || !slices.Equal(d.Encode(), p.bytes()) {
			t.Fatal(k, err)
		}
	}
}

// longest is a document of as many bytes as there may be.
func longest(t *testing.T) string {
	t.Helper()
	m := small("longest")
	rule := strings.Repeat("not ", 20) + "true = (" + strconv.Quote(strings.Repeat("x", api.MaxValue)) + ` = "")`
	for k := range 44 {
		m.Plan.Kids = append(m.Plan.Kids, api.Item{ID: "i" + strconv.Itoa(k), Kind: api.ItemHuman, Manual: rule, Required: rule, Repeat: rule})
	}
	const around = len(` name=""`)
	for k := range m.Plan.Kids {
		gap := api.MaxText - len(document(m))
		if gap == 0 {
			break
		}
		n := min(gap, around+api.MaxName)
		if left := gap - n; left > 0 && left <= around {
			n -= 2 * around
		}
		m.Plan.Kids[k].Name = strings.Repeat("n", n-around)
	}
	return document(m)
}

func TestP32_2LongestDocument(t *testing.T) {
	text := longest(t)
	if len(text) != api.MaxText {
		t.Fatal(len(text))
	}
	p := pictured(300, []string{text, document(office())}, []api.Case{inst(1, "longest")})
	s, err := store.Decode(p.bytes())
	if err != api.OK || !slices.Equal(s.Encode(), p.bytes()) {
		t.Fatal(err)
	}
	if !slices.Equal(stored(t, 300, deploy(text), deploy(document(office()))).Encode(), pictured(300, p.documents, nil).bytes()) {
		t.Error("it is encoded otherwise")
	}
	p.documents[0] += " "
	if _, err := store.Decode(p.bytes()); err != api.ErrLog {
		t.Error(err)
	}
}

func TestP32_2DecodeAccepts(t *testing.T) {
	odd := api.Case{ID: 1, Model: "m3", Clock: 1 << 62, Insts: []api.Inst{{}, {Path: "no path", Item: "none", State: 77, Before: 1 << 31, Latches: []int{5, 1 << 31}, Due: 1 << 62}, {}}, Docs: []api.Doc{{Path: "none", Refs: []string{"x", "x"}}}}
	many := inst(1, "m3")
	for len(many.Insts) < 10*api.MaxItems {
		many.Insts = append(many.Insts, many.Insts[0])
	}
	for name, p := range map[string]picture{
		"nothing":                          pictured(1, nil, nil),
		"most":                             pictured(300, nil, nil),
		"a model":                          pictured(5, smalls(1), nil),
		"all models":                       pictured(5, smalls(10), nil),
		"a case":                           pictured(5, smalls(1), insts(1)),
		"all cases":                        pictured(5, smalls(1), insts(20)),
		"all":                              pictured(5, smalls(10), insts(20)),
		"cases of several models":          pictured(5, smalls(2), []api.Case{inst(1, "m10"), inst(2, "m3"), inst(3, "m10")}),
		"what is odd, but a case":          pictured(5, smalls(1), []api.Case{odd}),
		"a case without an instance of it": pictured(5, smalls(1), []api.Case{{ID: 1, Model: "m3", Insts: []api.Inst{{}}}}),
		"more instances than most":         pictured(1, smalls(1), []api.Case{many}),
	} {
		s, err := store.Decode(p.bytes())
		if err != api.OK {
			t.Errorf("%s: %v", name, err)
			continue
		}
		if !slices.Equal(s.Encode(), p.bytes()) || s.Most() != p.most {
			t.Errorf("%s: another store", name)
		}
		for k, c := range p.cases {
			if a := s.Do(look(k+1), nil); !same(a, api.Answer{State: c}) {
				t.Errorf("%s: %v, not %v", name, a, c)
			}
		}
	}
}

func TestP32_2DecodeRefuses(t *testing.T) {
	all := pictured(5, smalls(10), insts(20))
	docs := func(l ...string) picture { return pictured(5, l, nil) }
	cases := func(l ...api.Case) picture { return pictured(5, smalls(2), l) }
	other := small("m3")
	other.Name = "another one"
	wrong := func(change func(p *picture)) picture {
		p := pictured(5, smalls(2), insts(2))
		change(&p)
		return p
	}
	text := document(small("m"))
	for name, p := range map[string]picture{
		"most is 0":                     wrong(func(p *picture) { p.most = 0 }),
		"most is below 0":               wrong(func(p *picture) { p.most = -1 }),
		"most is too much":              wrong(func(p *picture) { p.most = 301 }),
		"most is much too much":         wrong(func(p *picture) { p.most = 1 << 62 }),
		"fewer models than told":        wrong(func(p *picture) { p.models = 3 }),
		"more models than told":         wrong(func(p *picture) { p.models = 1 }),
		"a negative number of models":   wrong(func(p *picture) { p.models = -1 }),
		"fewer cases than told":         wrong(func(p *picture) { p.count = 3 }),
		"more cases than told":          wrong(func(p *picture) { p.count = 1 }),
		"a negative number of cases":    wrong(func(p *picture) { p.count = -2 }),
		"minus one model":               {5, -1, nil, 0, nil},
		"minus one case":                {5, 0, nil, -1, nil},
		"minus one case of a model":     {5, 2, smalls(2), -1, nil},
		"no case is told":               wrong(func(p *picture) { p.count = 0 }),
		"too many models":               pictured(5, smalls(11), nil),
		"too many models are told":      wrong(func(p *picture) { p.models = 11 }),
		"too many cases":                pictured(5, smalls(1), insts(21)),
		"too many cases, with all":      {5, 10, all.documents, 21, append(all.cases, inst(21, "m3"))},
		"a model twice":                 docs(text, text),
		"an ID twice":                   docs(document(small("m3")), document(other)),
		"an empty document":             docs(""),
		"no XML":                        docs("<a"),
		"no model":                      docs("<a/>"),
		"a model that is not valid":     docs(strings.Replace(text, `"m"`, `"m m"`, 1)),
		"a blank ahead":                 docs(" " + text),
		"a newline behind":              docs(text + "\n"),
		"a comment":                     docs(text + "<!-- -->"),
		"other quotes":                  docs(strings.Replace(text, `"m"`, `'m'`, 1)),
		"not as it is printed, second":  docs(text, strings.Replace(document(office()), "><", "> <", 1)),
		"a longer document":             docs(strings.Repeat(" ", api.MaxText) + text),
		"a case without instances":      cases(api.Case{ID: 1, Model: "m3"}),
		"a second one without":          cases(inst(1, "m3"), api.Case{ID: 2, Model: "m3"}),
		"a case of no model":            cases(inst(1, "")),
		"a case of another model":       cases(inst(1, "m4")),
		"a case of another one, second": cases(inst(1, "m3"), inst(2, "M3")),
		"the first ID is 0":             cases(inst(0, "m3")),
		"the first ID is 2":             cases(inst(2, "m3")),
		"an ID twice in cases":          cases(inst(1, "m3"), inst(1, "m3")),
		"an ID is left out":             cases(inst(1, "m3"), inst(3, "m3")),
		"IDs in another order":          cases(inst(2, "m3"), inst(1, "m3")),
		"no valid value":                cases(api.Case{ID: 1, Model: "m3", Insts: inst(1, "").Insts, Docs: []api.Doc{{Value: api.Value{Kind: 9}}}}),
		"a case beyond a limit":         cases(api.Case{ID: 1, Model: "m3", Insts: inst(1, "").Insts, Docs: make([]api.Doc, api.MaxFile+1)}),
	} {
		if s, err := store.Decode(p.bytes()); err != api.ErrLog || s != nil {
			t.Errorf("%s: %v, %v", name, s, err)
		}
	}
}

func TestP32_2DecodeNothing(t *testing.T) {
	for _, b := range [][]byte{nil, {}, {2}, {2, 0}, {2, 0, 0, 0}, {2, 0, 2}, {2, 2, 0, 0}, {130, 0, 0, 0}, {255, 255, 255, 255, 255, 255, 255, 255, 255, 1, 0, 0}, {128}, {2, 20, 0, 0}} {
		if s, err := store.Decode(b); err != api.ErrLog || s != nil {
			t.Errorf("%v: %v, %v", b, s, err)
		}
	}
}

// TestP32_2DecodeAltered holds that bytes are those of one store at most.
func TestP32_2DecodeAltered(t *testing.T) {
	s := stored(t, 30, deploy(document(small("m"))), deploy(document(endless())), create("", "m"), create("", "m"), tick(1, 7))
	b := s.Encode()
	accepted := 0
	for k := range b {
		if d, err := store.Decode(b[:k]); err != api.ErrLog || d != nil {
			t.Fatalf("%d bytes: %v", k, err)
		}
		for _, x := range []byte{0, 1, 2, 3, 4, 'a', ' ', '<', 128, 255, b[k] + 1, b[k] - 1, b[k] ^ 128} {
			for _, altered := range [][]byte{slices.Concat(b[:k], []byte{x}, b[k+1:]), slices.Insert(slices.Clone(b), k, x)} {
				d, err := store.Decode(altered)
				if err != api.OK && (err != api.ErrLog || d != nil) || err == api.OK && !slices.Equal(d.Encode(), altered) {
					t.Fatalf("%d, %d: %v", k, x, err)
				}
				if err == api.OK {
					accepted++
				}
			}
		}
	}
	if accepted < 200 {
		t.Error("too few stores:", accepted)
	}
	for _, x := range []byte{0, 1, 255} {
		if _, err := store.Decode(append(slices.Clone(b), x)); err != api.ErrLog {
			t.Error(x, err)
		}
	}
}
