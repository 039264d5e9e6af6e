package codec

import (
	"encoding/binary"
	"math"
	"math/rand"
	"reflect"
	"strings"
	"testing"

	"dossier/api"
	"dossier/cascade"
	"dossier/tree"
	"dossier/value"
)

// A scan reads a text from its start, and raises the first error.
type scan struct{ left string }

func (s *scan) int(low, high int) int {
	for k := 0; ; k++ {
		if k == len(s.left) {
			panic(api.ErrShort)
		}
		x := s.left[k]
		if x == 0 && k > 0 || k == 9 && x > 1 {
			panic(api.ErrForm)
		}
		if x < 128 {
			n, size := binary.Varint([]byte(s.left))
			if size != k+1 || n < int64(low) || n > int64(high) {
				panic(api.ErrFull)
			}
			s.left = s.left[size:]
			return int(n)
		}
	}
}

func (s *scan) number() int { return s.int(0, 1<<31) }

func (s *scan) text(most int) string {
	n := s.int(0, most)
	if n > len(s.left) {
		panic(api.ErrShort)
	}
	text := s.left[:n]
	s.left = s.left[n:]
	return text
}

func (s *scan) flag() bool {
	if s.left == "" {
		panic(api.ErrShort)
	}
	x := s.left[0]
	if s.left = s.left[1:]; x > 1 {
		panic(api.ErrForm)
	}
	return x == 1
}

func (s *scan) value() api.Value {
	v := api.Value{Kind: s.int(math.MinInt, math.MaxInt)}
	switch v.Kind {
	case 1:
		v.Int = s.int(math.MinInt, math.MaxInt)
	case 2:
		v.Bool = s.flag()
	case 3:
		v.Text = s.text(math.MaxInt)
	}
	if !value.Can(v) {
		panic(api.ErrForm)
	}
	return v
}

func (s *scan) command() (k api.Command) {
	if k.Verb = s.number(); k.Verb < 1 || k.Verb > 9 {
		panic(api.ErrVerb)
	}
	for name := range strings.FieldsSeq(has[k.Verb]) {
		for _, f := range fields() {
			switch {
			case f.name != name:
			case f.text != nil && name == "Name" && k.Verb == 5:
				k.Name = s.text(4096)
			case f.text != nil:
				*f.text(&k) = s.text(f.limit)
			default:
				*f.whole(&k) = s.int(0, f.limit)
			}
		}
	}
	if k.Verb == 5 {
		k.Value = s.value()
	}
	s.end()
	return k
}

func (s *scan) end() {
	if s.left != "" {
		panic(api.ErrForm)
	}
}

func (s *scan) state() api.Case {
	c := api.Case{ID: s.number(), Model: s.text(64), Clock: s.int(0, 1<<62)}
	for range s.int(0, 2000) {
		x := api.Inst{Path: s.text(4096), Item: s.text(64), State: s.number(), Before: s.number()}
		for range s.int(0, 16) {
			x.Latches = append(x.Latches, s.number())
		}
		x.Due = s.int(0, 1<<62)
		c.Insts = append(c.Insts, x)
	}
	for range s.int(0, 100) {
		d := api.Doc{Path: s.text(4096), Value: s.value()}
		for range s.int(0, 8) {
			d.Refs = append(d.Refs, s.text(4096))
		}
		c.Docs = append(c.Docs, d)
	}
	return c
}

func (s *scan) answer() api.Answer {
	a := api.Answer{Code: api.Errno(s.number()), Offset: s.number(), Case: s.number()}
	for range s.int(0, 30) {
		a.Names = append(a.Names, s.text(4096))
	}
	if s.flag() {
		if a.State = s.state(); a.State.Insts == nil {
			panic(api.ErrForm)
		}
	}
	s.end()
	return a
}

// scanned is what read returns, or the error that it raised.
func scanned[T any](b string, read func(s *scan) T) (result T, rest string, err api.Errno) {
	defer func() {
		if raised, is := recover().(api.Errno); is {
			err = raised
		}
	}()
	s := &scan{b}
	result = read(s)
	return result, s.left, api.OK
}

func pick[T any](r *rand.Rand, l ...T) T { return l[r.Intn(len(l))] }

func someNumber(r *rand.Rand, limit int) int {
	return pick(r, 0, 1, r.Intn(9), r.Intn(300), r.Intn(limit), limit)
}

func someText(r *rand.Rand, limit int) string {
	return strings.Repeat(pick(r, "a", "p.1/", "\x00", "\u20ac"), 60)[:pick(r, 0, 1, r.Intn(6), r.Intn(60))%(limit+1)]
}

func someValue(r *rand.Rand) api.Value {
	return pick(r, pick(r, values()...), value.Int(r.Int()-r.Int()), value.Text(strings.ToValidUTF8(strings.ReplaceAll(someText(r, 256), "\x00", "b"), "c")))
}

// someCommand is one that can be encoded.
func someCommand(r *rand.Rand) api.Command {
	k := api.Command{Verb: 1 + r.Intn(9)}
	for _, f := range fields() {
		switch {
		case !own(k.Verb, f):
		case f.text != nil:
			*f.text(&k) = someText(r, f.limit)
		default:
			*f.whole(&k) = someNumber(r, f.limit)
		}
	}
	if k.Verb == api.VerbFile {
		k.Value = someValue(r)
	}
	return k
}

// some is a list of what make makes, nil if that is nothing.
func some[T any](r *rand.Rand, most int, make func() T) []T {
	var l []T
	for range r.Intn(most+1) * r.Intn(2) {
		l = append(l, make())
	}
	return l
}

func someCase(r *rand.Rand) api.Case {
	return api.Case{
		ID: someNumber(r, big), Model: someText(r, 64), Clock: someNumber(r, 1<<62),
		Insts: some(r, 5, func() api.Inst {
			latches := some(r, 16, func() int { return someNumber(r, big) })
			return api.Inst{Path: someText(r, 4096), Item: someText(r, 64), State: someNumber(r, big), Before: someNumber(r, big), Latches: latches, Due: someNumber(r, 1<<62)}
		}),
		Docs: some(r, 5, func() api.Doc {
			return api.Doc{Path: someText(r, 4096), Value: someValue(r), Refs: some(r, 8, func() string { return someText(r, 4096) })}
		}),
	}
}

func someAnswer(r *rand.Rand) api.Answer {
	a := api.Answer{Code: api.Errno(someNumber(r, big)), Offset: someNumber(r, big), Case: someNumber(r, big), Names: some(r, 30, func() string { return someText(r, 4096) })}
	if c := someCase(r); len(c.Insts) > 0 {
		a.State = c
	}
	return a
}

// altered is a text with a few other bytes.
func altered(r *rand.Rand, b string) string {
	for range r.Intn(4) {
		at := r.Intn(len(b) + 1)
		x := string([]byte{pick(r, 0, 1, 2, 3, 4, 6, 8, 127, 128, 129, 255, byte(r.Intn(256)))})
		switch {
		case at == len(b):
			b += x
		case r.Intn(8) == 0:
			b = b[:at]
		case r.Intn(3) == 0:
			b = b[:at] + x + b[at:]
		case r.Intn(3) == 0:
			b = b[:at] + b[at+1:]
		default:
			b = b[:at] + x + b[at+1:]
		}
	}
	return b
}

// wantSketch holds what is read of a text, and that what was read is written as these bytes.
func wantSketch[T any](t *testing.T, b string, sketch func(s *scan) T, read func(b []byte) (T, []byte, api.Errno), write func(T) []byte) api.Errno {
	t.Helper()
	want, wantRest, wantErr := scanned(b, sketch)
	got, rest, err := read([]byte(b))
	if err != wantErr || !reflect.DeepEqual(got, want) || string(rest) != wantRest {
		t.Fatalf("%q: %+v, rest %q, error %d, want %+v, rest %q, error %d", b, got, rest, err, want, wantRest, wantErr)
	}
	if err == api.OK {
		if again := string(write(got)) + string(rest); again != b {
			t.Fatalf("%q is written for what was read of %q", again, b)
		}
	}
	return err
}

func sketchCommand(t *testing.T, b string) api.Errno {
	t.Helper()
	return wantSketch(t, b, (*scan).command, func(b []byte) (api.Command, []byte, api.Errno) {
		k, err := ReadCommand(b)
		return k, nil, err
	}, func(k api.Command) []byte {
		b, _ := Command(k)
		return b
	})
}

func sketchAnswer(t *testing.T, b string) api.Errno {
	t.Helper()
	return wantSketch(t, b, (*scan).answer, func(b []byte) (api.Answer, []byte, api.Errno) {
		a, err := ReadAnswer(b)
		return a, nil, err
	}, Answer)
}

func sketchCase(t *testing.T, b string) api.Errno {
	t.Helper()
	return wantSketch(t, b, (*scan).state, ReadCase, func(c api.Case) []byte { return Case(nil, c) })
}

func TestP30_1Altered(t *testing.T) {
	r := rand.New(rand.NewSource(301))
	met := map[api.Errno]int{}
	for range 60000 {
		met[sketchCommand(t, altered(r, encoded(someCommand(r))))]++
	}
	wantMet(t, met, api.OK, api.ErrShort, api.ErrForm, api.ErrFull, api.ErrVerb)
}

func TestP30_2Altered(t *testing.T) {
	r := rand.New(rand.NewSource(302))
	answers, cases := map[api.Errno]int{}, map[api.Errno]int{}
	for range 30000 {
		answers[sketchAnswer(t, altered(r, encodedAnswer(someAnswer(r))))]++
		cases[sketchCase(t, altered(r, encodedCase(someCase(r))))]++
	}
	wantMet(t, answers, api.OK, api.ErrShort, api.ErrForm, api.ErrFull)
	wantMet(t, cases, api.OK, api.ErrShort, api.ErrForm, api.ErrFull)
}

func wantMet(t *testing.T, met map[api.Errno]int, errs ...api.Errno) {
	t.Helper()
	if len(met) != len(errs) {
		t.Error(met)
	}
	for _, err := range errs {
		if met[err] < 500 {
			t.Error("one-sided:", met)
		}
	}
}

// All short texts, and those that go on behind the start of a command.
func TestP30_1Short(t *testing.T) {
	starts := []string{"", "\x02", "\x04\x00", "\x06\x02\x00", "\x0a\x00\x00\x00\x00\x00", "\x0c\x00\x00", "\x0e", "\x10"}
	for _, start := range starts {
		for x := range 256 {
			sketchCommand(t, start+string([]byte{byte(x)}))
			for y := range 256 {
				sketchCommand(t, start+string([]byte{byte(x), byte(y)}))
			}
		}
	}
}

func TestP30_3Commands(t *testing.T) {
	r := rand.New(rand.NewSource(303))
	for range 5000 {
		k := someCommand(r)
		b, err := Command(k)
		if again, wrong := ReadCommand(b); err != api.OK || wrong != api.OK || again != k || string(b) != encoded(k) {
			t.Fatalf("%+v: %q, error %d, read %+v, error %d", k, b, err, again, wrong)
		}
	}
}

func TestP30_3Answers(t *testing.T) {
	r := rand.New(rand.NewSource(304))
	for range 5000 {
		a, c := someAnswer(r), someCase(r)
		if again, err := ReadAnswer(Answer(a)); err != api.OK || !reflect.DeepEqual(again, a) {
			t.Fatalf("%+v: read %+v, error %d", a, again, err)
		}
		if again, rest, err := ReadCase(Case(nil, c)); err != api.OK || !tree.Same(again, c) || len(rest) > 0 {
			t.Fatalf("%+v: read %+v, rest %q, error %d", c, again, rest, err)
		}
	}
}

// Cases behind one another, such as they come from models.
func TestP30_3Cases(t *testing.T) {
	var b []byte
	var l []api.Case
	kids := []api.Item{{ID: "o", Kind: api.ItemTimer, After: 1 << 31}, {ID: "t", Kind: api.ItemHuman, Entry: []api.Sentry{{If: "true"}}}}
	m := api.Model{ID: "m", Plan: api.Item{ID: "p"}}
	for n := range 20 {
		m.Plan.Kids = append(m.Plan.Kids, api.Item{ID: "s" + string(rune('a'+n)), Kind: api.ItemStage})
		if n == 10 {
			m.Plan.Kids[0].Kids = kids
		}
		c, _, err := cascade.Root(m, n+1, api.MaxInst)
		if err == api.OK {
			c, _, err = cascade.Do(m, c, "p.1/sa.1", api.EvStart, api.MaxInst)
		}
		if err != api.OK {
			t.Fatal(err)
		}
		b, l = Case(b, c), append(l, c)
	}
	for _, want := range l {
		c, rest, err := ReadCase(b)
		if err != api.OK || !tree.Same(c, want) {
			t.Fatalf("error %d, %+v, want %+v", err, c, want)
		}
		b = rest
	}
	if len(b) > 0 {
		t.Errorf("%q", b)
	}
}

// A case takes time by its size, and no more.
func TestP30_2Large(t *testing.T) {
	c := api.Case{Insts: make([]api.Inst, 100000), Docs: make([]api.Doc, 100000)}
	for k := range c.Insts {
		c.Insts[k] = api.Inst{Path: strings.Repeat("x", k%100), Latches: make([]int, k%7)}
		c.Docs[k].Refs = make([]string, k%7)
	}
	if got := Case(nil, c); string(got[:9]) != encodedCase(api.Case{})[:3]+"\xc0\x9a\x0c"+"\x00\x00\x00" || len(got) < 5000000 {
		t.Errorf("%d bytes, % x", len(got), got[:9])
	}
	text := strings.Repeat("y", 1<<24)
	if b, err := Command(api.Command{Verb: api.VerbDeploy, Text: text}); err != api.ErrArg || len(b) > 0 {
		t.Error(err, len(b))
	}
}
