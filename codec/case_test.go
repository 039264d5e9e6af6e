package codec

import (
	"bytes"
	"fmt"
	"math"
	"reflect"
	"slices"
	"strings"
	"testing"

	"dossier/api"
	"dossier/value"
)

// sample is a case in which every field is set, and its encoding.
func sample() (api.Case, string) {
	c := api.Case{ID: 3, Model: "m", Clock: 70, Insts: []api.Inst{
		{Path: "p.1", Item: "p", State: api.Active},
		{Path: "p.1/t.1", Item: "t", State: api.Suspended, Before: 14, Latches: []int{0, 255}, Due: 65},
	}, Docs: []api.Doc{
		{Path: "f#1", Value: value.Int(-1), Refs: []string{"f#2", "f#1"}},
		{Path: "f#2", Value: value.Text("x")},
		{Path: "g#1", Value: value.Bool(true)},
		{Path: "h#1"},
	}}
	return c, "\x06\x02m\x8c\x01" +
		"\x04\x06p.1\x02p\x08\x00\x00\x00" + "\x0ep.1/t.1\x02t\x0c\x1c\x04\x00\xfe\x03\x82\x01" +
		"\x08\x06f#1\x02\x01\x04\x06f#2\x06f#1" + "\x06f#2\x06\x02x\x00" + "\x06g#1\x04\x01\x00" + "\x06h#1\x00\x00"
}

// encodedCase is a case's encoding, as the chapter has it.
func encodedCase(c api.Case) string {
	s := varint(c.ID) + texted(c.Model) + varint(c.Clock) + varint(len(c.Insts))
	for _, x := range c.Insts {
		s += texted(x.Path) + texted(x.Item) + varint(x.State) + varint(x.Before) + varint(len(x.Latches))
		for _, latch := range x.Latches {
			s += varint(latch)
		}
		s += varint(x.Due)
	}
	s += varint(len(c.Docs))
	for _, d := range c.Docs {
		s += texted(d.Path) + valued(d.Value) + varint(len(d.Refs))
		for _, ref := range d.Refs {
			s += texted(ref)
		}
	}
	return s
}

func texted(s string) string { return varint(len(s)) + s }

// encodedAnswer is likewise that of an answer.
func encodedAnswer(a api.Answer) string {
	s := varint(int(a.Code)) + varint(a.Offset) + varint(a.Case) + varint(len(a.Names))
	for _, name := range a.Names {
		s += texted(name)
	}
	if len(a.State.Insts) == 0 {
		return s + "\x00"
	}
	return s + "\x01" + encodedCase(a.State)
}

// wantCase holds the encoding of a case, alone and within an answer, and that this is read again, with what is behind it.
func wantCase(t *testing.T, what string, c api.Case) {
	t.Helper()
	b := encodedCase(c)
	for _, before := range []string{"", "\x00", "ahead"} {
		if got := Case([]byte(before), c); string(got) != before+b {
			t.Errorf("%s: Case = %.80q, want %.80q behind %q", what, got, b, before)
		}
	}
	for _, behind := range []string{"", "\x00", "\xff\x80", b} {
		got, rest, err := ReadCase([]byte(b + behind))
		if err != api.OK || !reflect.DeepEqual(got, c) || string(rest) != behind {
			t.Errorf("%s: ReadCase of %.80q: %+v, error %d, rest %.20q, want rest %.20q", what, b, got, err, rest, behind)
		}
	}
	if len(c.Insts) > 0 {
		wantAnswer(t, what, api.Answer{State: c})
	}
}

func wantAnswer(t *testing.T, what string, a api.Answer) {
	t.Helper()
	b := encodedAnswer(a)
	if got := Answer(a); string(got) != b {
		t.Errorf("%s: Answer = %.80q, want %.80q", what, got, b)
	}
	got, err := ReadAnswer([]byte(b))
	if err != api.OK || !reflect.DeepEqual(got, a) {
		t.Errorf("%s: ReadAnswer of %.80q: %+v, error %d", what, b, got, err)
	}
	if b != "" {
		wantNoAnswer(t, what+" with a byte more", b+"\x00", api.ErrForm)
		wantNoAnswer(t, what+" with a byte less", b[:len(b)-1], api.ErrShort)
	}
}

// wantNoCase holds an error, of a case alone and of one within an answer.
func wantNoCase(t *testing.T, what, b string, want api.Errno) {
	t.Helper()
	c, rest, err := ReadCase([]byte(b))
	if err != want || !reflect.DeepEqual(c, api.Case{}) || len(rest) > 0 {
		t.Errorf("%s: ReadCase of %.80q: %+v, rest %.20q, error %d, want error %d alone", what, b, c, rest, err, want)
	}
	wantNoAnswer(t, what, "\x00\x00\x00\x00\x01"+b, want)
}

func wantNoAnswer(t *testing.T, what, b string, want api.Errno) {
	t.Helper()
	if a, err := ReadAnswer([]byte(b)); err != want || !reflect.DeepEqual(a, api.Answer{}) {
		t.Errorf("%s: ReadAnswer of %.80q: %+v, error %d, want error %d alone", what, b, a, err, want)
	}
}

func TestP30_2Case(t *testing.T) {
	c, b := sample()
	if encodedCase(c) != b {
		t.Fatalf("%q, want %q", encodedCase(c), b)
	}
	wantCase(t, "the sample", c)
	wantCase(t, "no case", api.Case{})
	if got := Case(nil, api.Case{}); !bytes.Equal(got, make([]byte, 5)) {
		t.Error(got)
	}
	for n := range len(b) {
		wantNoCase(t, "a part", b[:n], api.ErrShort)
	}
}

func TestP30_2Answer(t *testing.T) {
	c, b := sample()
	for want, a := range map[string]api.Answer{
		"\x00\x00\x00\x00\x00":                 {},
		"\x06\x00\x00\x00\x00":                 {Code: api.ErrShort}, // the document's first example
		"\x1e\x82\x01\x00\x00\x00":             {Code: api.ErrTwice, Offset: 65},
		"\x00\x00\x28\x00\x00":                 {Case: 20},
		"\x00\x00\x00\x04\x02m\x061:m\x00":     {Names: []string{"m", "1:m"}},
		"\x00\x00\x00\x02\x00\x00":             {Names: []string{""}},
		"\x02\x04\x06\x02\x02\xff\x01" + b:     {Code: api.ErrArg, Offset: 2, Case: 3, Names: []string{"\xff"}, State: c},
		"\x00\x00\x00\x00\x01" + b:             {State: c},
		"\x80\x80\x80\x80\x10\x00\x00\x00\x00": {Code: big},
	} {
		if encodedAnswer(a) != want {
			t.Fatalf("%q, want %q", encodedAnswer(a), want)
		}
		wantAnswer(t, "a sample", a)
		for n := range len(want) {
			wantNoAnswer(t, "a part", want[:n], api.ErrShort)
		}
	}
}

// A state without instances is none, and is not written.
func TestP30_2NoState(t *testing.T) {
	c, _ := sample()
	c.Insts = nil
	for _, c := range []api.Case{c, {ID: 5}, {Insts: []api.Inst{}}, {Docs: make([]api.Doc, 3)}} {
		if got := Answer(api.Answer{Case: 7, State: c}); !bytes.Equal(got, []byte{0, 0, 14, 0, 0}) {
			t.Errorf("%+v: % x", c, got)
		}
		wantNoAnswer(t, "a state without instances", "\x00\x00\x00\x00\x01"+encodedCase(c), api.ErrForm)
		wantNoAnswer(t, "one with a byte more", "\x00\x00\x00\x00\x01"+encodedCase(c)+"\x00", api.ErrForm)
	}
	// What is wrong further on comes ahead of that.
	wantNoAnswer(t, "a document whose number is too long", "\x00\x00\x00\x00\x01\x00\x00\x00\x00\xca\x01", api.ErrFull)
	wantNoAnswer(t, "one that ends too early", "\x00\x00\x00\x00\x01\x00\x00\x00\x00\x02", api.ErrShort)
	for flag := 2; flag < 256; flag++ {
		wantNoAnswer(t, "a flag", "\x00\x00\x00\x00"+string([]byte{byte(flag)}), api.ErrForm)
	}
}

// A part of a case or an answer that has a limit: a number, or how long or many something is.
type part struct {
	name  string
	limit int
	set   func(a *api.Answer, n int)
}

func parts() []part {
	long := func(n int) string { return strings.Repeat("z", n) }
	return []part{
		{"Code", big, func(a *api.Answer, n int) { a.Code = api.Errno(n) }},
		{"Offset", big, func(a *api.Answer, n int) { a.Offset = n }},
		{"Case", big, func(a *api.Answer, n int) { a.Case = n }},
		{"ID", big, func(a *api.Answer, n int) { a.State.ID = n }},
		{"Clock", 1 << 62, func(a *api.Answer, n int) { a.State.Clock = n }},
		{"State", big, func(a *api.Answer, n int) { a.State.Insts[1].State = n }},
		{"Before", big, func(a *api.Answer, n int) { a.State.Insts[0].Before = n }},
		{"a latch", big, func(a *api.Answer, n int) { a.State.Insts[1].Latches[1] = n }},
		{"Due", 1 << 62, func(a *api.Answer, n int) { a.State.Insts[1].Due = n }},
		{"Names", 30, func(a *api.Answer, n int) { a.Names = make([]string, n) }},
		{"a name", 4096, func(a *api.Answer, n int) { a.Names = []string{"", long(n)} }},
		{"Model", 64, func(a *api.Answer, n int) { a.State.Model = long(n) }},
		{"Insts", 2000, func(a *api.Answer, n int) { a.State.Insts = make([]api.Inst, n) }},
		{"the Path of an instance", 4096, func(a *api.Answer, n int) { a.State.Insts[1].Path = long(n) }},
		{"Item", 64, func(a *api.Answer, n int) { a.State.Insts[0].Item = long(n) }},
		{"Latches", 16, func(a *api.Answer, n int) { a.State.Insts[0].Latches = make([]int, n) }},
		{"Docs", 100, func(a *api.Answer, n int) { a.State.Docs = make([]api.Doc, n) }},
		{"the Path of a document", 4096, func(a *api.Answer, n int) { a.State.Docs[3].Path = long(n) }},
		{"Refs", 8, func(a *api.Answer, n int) { a.State.Docs[2].Refs = make([]string, n) }},
		{"a reference", 4096, func(a *api.Answer, n int) { a.State.Docs[0].Refs[1] = long(n) }},
	}
}

// Nothing is checked where something is written, and every limit where it is read.
func TestP30_2Limits(t *testing.T) {
	for _, p := range parts() {
		for _, n := range []int{1, p.limit - 1, p.limit} {
			a := api.Answer{Names: []string{"m"}}
			a.State, _ = sample()
			p.set(&a, n)
			wantAnswer(t, p.name, a)
			wantCase(t, p.name, a.State)
		}
		beyond := []int{p.limit + 1, p.limit + 100}
		if p.limit >= big {
			beyond = []int{p.limit + 1, -1, math.MinInt, math.MaxInt}
		}
		for _, n := range beyond {
			a := api.Answer{Names: []string{"m"}}
			a.State, _ = sample()
			p.set(&a, n)
			if got := Answer(a); string(got) != encodedAnswer(a) {
				t.Errorf("%s %d: Answer = %.80q", p.name, n, got)
			}
			wantNoAnswer(t, p.name, encodedAnswer(a), api.ErrFull)
			wantNoAnswer(t, p.name, encodedAnswer(a)+"\x00", api.ErrFull)
			a.Code, a.Offset, a.Case, a.Names = 0, 0, 0, nil
			if good, _ := sample(); !reflect.DeepEqual(a.State, good) {
				wantNoCase(t, p.name, encodedCase(a.State), api.ErrFull)
			}
		}
	}
}

func TestP30_2Values(t *testing.T) {
	for k := range 4 {
		for _, v := range values() {
			c, _ := sample()
			c.Docs[k].Value = v
			wantCase(t, "a value", c)
		}
		for _, v := range wrong() {
			c, _ := sample()
			c.Docs[k].Value = v
			if got := Case(nil, c); string(got) != encodedCase(c) {
				t.Errorf("%.80q, want %.80q", got, encodedCase(c))
			}
			if reread(v) != v {
				continue // written, it is another one
			}
			wantNoCase(t, "a value", encodedCase(c), api.ErrForm)
			// It comes ahead of what is wrong behind it, and behind what is wrong ahead of it.
			b := encodedCase(api.Case{Insts: c.Insts, Docs: []api.Doc{{Value: v}}})
			wantNoCase(t, "a value ahead of a list that is too long", b[:len(b)-1]+"\x12", api.ErrForm)
			wantNoCase(t, "a value ahead of the end", b[:len(b)-1], api.ErrForm)
			c.ID = -1
			wantNoCase(t, "a value behind a negative number", encodedCase(c), api.ErrFull)
		}
	}
}

// Results are in new memory, and spare capacity is left alone.
func TestP30_2Memory(t *testing.T) {
	c, b := sample()
	whole := []byte("ahead, and something behind" + strings.Repeat(" ", 300))
	before := slices.Clone(whole)
	got := Case(whole[:5], c)
	got[0] = 'A'
	if !bytes.Equal(whole, before) || string(got[5:]) != b {
		t.Errorf("%q, %q", whole, got)
	}
	given := []byte(b + "rest")
	read, rest, err := ReadCase(given)
	for k := range given {
		given[k] = 0xff
	}
	if err != api.OK || string(rest) != "rest" || !reflect.DeepEqual(read, c) {
		t.Errorf("error %d, %q, %+v", err, rest, read)
	}
	rest = append(rest, 'x')
	read.Insts[1].Latches[0], read.Docs[0].Refs[0] = 9, "spoilt"
	if again, _, _ := ReadCase([]byte(b)); !reflect.DeepEqual(again, c) {
		t.Errorf("%+v", again)
	}
	if same, _ := sample(); !reflect.DeepEqual(same, c) {
		t.Error(fmt.Sprintf("an argument was modified: %+v", c))
	}
}
