package codec

import (
	"bytes"
	"encoding/binary"
	"fmt"
	"math"
	"strings"
	"testing"

	"dossier/api"
	"dossier/value"
)

const big = 1 << 31 // what most numbers can be

// commands are one of each verb with all fields that it has, and their encodings.
func commands() map[string]api.Command {
	return map[string]api.Command{
		"\x02\x04<>":                                     {Verb: api.VerbDeploy, Text: "<>"},
		"\x04\x04r1\x02m":                                {Verb: api.VerbCreate, Role: "r1", Name: "m"},
		"\x06\x0a\x04r1\x06p.1\x0e":                      {Verb: api.VerbDo, Case: 5, Role: "r1", Path: "p.1", Event: api.EvComplete},
		"\x08\x0a\x04r1\x06p.1\x02d":                     {Verb: api.VerbPlan, Case: 5, Role: "r1", Path: "p.1", Name: "d"},
		"\x0a\x0a\x04r1\x2c\x06f#1\x02n\x02\x81\x01":     {Verb: api.VerbFile, Case: 5, Role: "r1", Event: api.EvUpdate, Path: "f#1", Name: "n", Value: value.Int(-65)},
		"\x0a\x0a\x04r1\x2c\x06f#1\x02n\x04\x01":         {Verb: api.VerbFile, Case: 5, Role: "r1", Event: api.EvUpdate, Path: "f#1", Name: "n", Value: value.Bool(true)},
		"\x0a\x0a\x04r1\x2c\x06f#1\x02n\x06\x04\xc3\xa9": {Verb: api.VerbFile, Case: 5, Role: "r1", Event: api.EvUpdate, Path: "f#1", Name: "n", Value: value.Text("\u00e9")},
		"\x0a\x0a\x04r1\x2c\x06f#1\x02n\x00":             {Verb: api.VerbFile, Case: 5, Role: "r1", Event: api.EvUpdate, Path: "f#1", Name: "n"},
		"\x0c\x0a\x04r1\x80\x80\x01":                     {Verb: api.VerbTick, Case: 5, Role: "r1", Int: 8192},
		"\x0e\x0a":                                       {Verb: api.VerbLook, Case: 5},
		"\x10":                                           {Verb: api.VerbList},
		"\x12":                                           {Verb: api.VerbCompact},
		// Fields that are not set are there, too.
		"\x02\x00":                     {Verb: api.VerbDeploy},
		"\x04\x00\x00":                 {Verb: api.VerbCreate},
		"\x06\x00\x00\x00\x00":         {Verb: api.VerbDo},
		"\x08\x00\x00\x00\x00":         {Verb: api.VerbPlan},
		"\x0a\x00\x00\x00\x00\x00\x00": {Verb: api.VerbFile},
		"\x0c\x00\x00\x00":             {Verb: api.VerbTick},
		"\x0e\x00":                     {Verb: api.VerbLook},
	}
}

func wantCommand(t *testing.T, k api.Command, want string) {
	t.Helper()
	if b, err := Command(k); err != api.OK || string(b) != want {
		t.Errorf("Command(%s) = %.60q, error %d, want %.60q", clip(k), b, err, want)
	}
	wantRead(t, want, k)
}

func wantRead(t *testing.T, b string, want api.Command) {
	t.Helper()
	if k, err := ReadCommand([]byte(b)); err != api.OK || k != want {
		t.Errorf("ReadCommand(%.60q) = %s, error %d, want %s", b, clip(k), err, clip(want))
	}
}

func wantUnwritten(t *testing.T, k api.Command, want api.Errno) {
	t.Helper()
	if b, err := Command(k); err != want || len(b) > 0 {
		t.Errorf("Command(%s) = %.60q, error %d, want error %d alone", clip(k), b, err, want)
	}
}

func wantUnread(t *testing.T, b string, want api.Errno) {
	t.Helper()
	if k, err := ReadCommand([]byte(b)); err != want || k != (api.Command{}) {
		t.Errorf("ReadCommand(%.60q) = %s, error %d, want error %d alone", b, clip(k), err, want)
	}
}

// clip keeps long texts out of messages.
func clip(k api.Command) string {
	for _, s := range []*string{&k.Role, &k.Name, &k.Path, &k.Text, &k.Value.Text} {
		if len(*s) > 20 {
			*s = (*s)[:20] + ".."
		}
	}
	return fmt.Sprintf("%+v", k)
}

func TestP30_1Commands(t *testing.T) {
	for b, k := range commands() {
		wantCommand(t, k, b)
	}
	if b, err := Command(api.Command{Verb: api.VerbList}); err != api.OK || !bytes.Equal(b, []byte{16}) {
		t.Error("the document's example:", b, err)
	}
}

// odd are numbers of no verb; those up to 2^31 can be read.
var odd = []int{math.MinInt, -9, -1, 0, 10, 11, 63, 64, 256 + 3, 1 << 31, 1<<31 + 1, 1<<32 + 3, 1 << 62, math.MaxInt}

func TestP30_1Verb(t *testing.T) {
	for _, verb := range odd {
		for _, k := range []api.Command{{}, {Case: -1}, {Text: "x", Role: strings.Repeat("r", 99)}, {Value: api.Value{Kind: 9}}} {
			k.Verb = verb
			wantUnwritten(t, k, api.ErrVerb)
		}
		want := api.ErrVerb
		if verb < 0 || verb > big {
			want = api.ErrFull
		}
		for _, rest := range []string{"", "\x00", "\x00\x00", "\x80\x00", "\xff"} {
			wantUnread(t, varint(verb)+rest, want)
		}
	}
}

// A field is one of a command's, by its name.
type field struct {
	name  string
	limit int // bytes, or the greatest number
	text  func(k *api.Command) *string
	whole func(k *api.Command) *int
}

func fields() []field {
	return []field{
		{"Case", big, nil, func(k *api.Command) *int { return &k.Case }},
		{"Event", big, nil, func(k *api.Command) *int { return &k.Event }},
		{"Int", 1 << 62, nil, func(k *api.Command) *int { return &k.Int }},
		{"Role", 64, func(k *api.Command) *string { return &k.Role }, nil},
		{"Name", 64, func(k *api.Command) *string { return &k.Name }, nil},
		{"Path", 4096, func(k *api.Command) *string { return &k.Path }, nil},
		{"Text", 65536, func(k *api.Command) *string { return &k.Text }, nil},
	}
}

// has are the fields of each verb in the order of their encoding, but for the Value of VerbFile, which is the last one.
var has = map[int]string{
	api.VerbDeploy: "Text", api.VerbCreate: "Role Name", api.VerbDo: "Case Role Path Event", api.VerbPlan: "Case Role Path Name",
	api.VerbFile: "Case Role Event Path Name", api.VerbTick: "Case Role Int", api.VerbLook: "Case", api.VerbList: "", api.VerbCompact: "",
}

func varint(n int) string { return string(binary.AppendVarint(nil, int64(n))) }

// encoded is a command's encoding, as the chapter has it.
func encoded(k api.Command) string {
	s := varint(k.Verb)
	for name := range strings.FieldsSeq(has[k.Verb]) {
		for _, f := range fields() {
			if f.name == name && f.text != nil {
				s += varint(len(*f.text(&k))) + *f.text(&k)
			} else if f.name == name {
				s += varint(*f.whole(&k))
			}
		}
	}
	if k.Verb == api.VerbFile {
		s += valued(k.Value)
	}
	return s
}

// valued is a value's encoding.
func valued(v api.Value) string {
	s := varint(v.Kind)
	switch v.Kind {
	case api.KindInt:
		s += varint(v.Int)
	case api.KindBool:
		s += map[bool]string{false: "\x00", true: "\x01"}[v.Bool]
	case api.KindText:
		s += varint(len(v.Text)) + v.Text
	}
	return s
}

// Each field of each verb: at its limit, beyond it, and where the verb has none.
func TestP30_1Fields(t *testing.T) {
	for verb := api.VerbDeploy; verb <= api.VerbCompact; verb++ {
		for _, f := range fields() {
			limit := f.limit
			if verb == api.VerbFile && f.name == "Name" {
				limit = 4096
			}
			if f.text != nil {
				wantText(t, verb, f, limit)
			} else {
				wantWhole(t, verb, f, limit)
			}
		}
	}
}

func own(verb int, f field) bool { return strings.Contains(" "+has[verb]+" ", " "+f.name+" ") }

func wantText(t *testing.T, verb int, f field, limit int) {
	t.Helper()
	for _, s := range []string{"", "a", "\x00\xff\x80", strings.Repeat("\xfe", 63), strings.Repeat("b", limit-1), strings.Repeat("c", limit), strings.Repeat("d", limit+1), strings.Repeat("e", 70000)} {
		k := api.Command{Verb: verb}
		*f.text(&k) = s
		switch {
		case own(verb, f) && len(s) <= limit || s == "":
			wantCommand(t, k, encoded(k))
		case own(verb, f):
			wantUnwritten(t, k, api.ErrArg)
			wantUnread(t, encoded(k), api.ErrFull)
		default:
			wantUnwritten(t, k, api.ErrArg)
		}
	}
}

func wantWhole(t *testing.T, verb int, f field, limit int) {
	t.Helper()
	for _, n := range []int{math.MinInt, -1 << 31, -1, 0, 1, 63, 64, limit - 1, limit, limit + 1, math.MaxInt} {
		k := api.Command{Verb: verb}
		*f.whole(&k) = n
		switch {
		case own(verb, f) && n >= 0 && n <= limit || n == 0:
			wantCommand(t, k, encoded(k))
		case own(verb, f):
			wantUnwritten(t, k, api.ErrArg)
			wantUnread(t, encoded(k), api.ErrFull)
		default:
			wantUnwritten(t, k, api.ErrArg)
		}
	}
}

// values are valid ones, and wrong are not; those of the latter that have fields of another kind cannot be read at all.
func values() []api.Value {
	return []api.Value{{}, value.Int(0), value.Int(math.MinInt), value.Int(math.MaxInt), value.Bool(false), value.Bool(true), value.Text(""), value.Text("\u20ac\t\""), value.Text(strings.Repeat("v", 256))}
}

func wrong() []api.Value {
	return []api.Value{
		{Int: 1}, {Bool: true}, {Text: "x"}, {Kind: api.KindInt, Bool: true}, {Kind: api.KindInt, Text: "5"}, {Kind: api.KindBool, Int: 1}, {Kind: api.KindBool, Text: "true"}, {Kind: api.KindText, Int: 1, Text: "x"}, {Kind: api.KindText, Bool: true},
		{Kind: 4}, {Kind: -1}, {Kind: math.MinInt}, {Kind: math.MaxInt}, {Kind: 1<<32 + 1}, {Kind: 4, Int: 5},
		value.Text("\x00"), value.Text("\xff"), value.Text("\ufffe"), value.Text("a\x1fb"), value.Text(strings.Repeat("v", 257)), value.Text(strings.Repeat("v", 70000)), value.Text(strings.Repeat("v", 255) + "\u20ac"),
	}
}

func TestP30_1Values(t *testing.T) {
	for verb := api.VerbDeploy; verb <= api.VerbCompact; verb++ {
		for _, v := range values() {
			k := api.Command{Verb: verb, Value: v}
			if verb == api.VerbFile || v == (api.Value{}) {
				wantCommand(t, k, encoded(k))
			} else {
				wantUnwritten(t, k, api.ErrArg)
			}
		}
		for _, v := range wrong() {
			k := api.Command{Verb: verb, Value: v}
			wantUnwritten(t, k, api.ErrArg)
			if b := encoded(k); verb == api.VerbFile && reread(v) == v {
				wantUnread(t, b, api.ErrForm)
				wantUnread(t, b+"\x00", api.ErrForm)
			}
		}
	}
}

// reread is what can be read of a value: the fields of its kind.
func reread(v api.Value) api.Value {
	switch v.Kind {
	case api.KindInt:
		return value.Int(v.Int)
	case api.KindBool:
		return value.Bool(v.Bool)
	case api.KindText:
		return value.Text(v.Text)
	}
	return api.Value{Kind: v.Kind}
}

// The first error in the order of the bytes.
func TestP30_1ReadErrors(t *testing.T) {
	for b := range commands() {
		for n := range len(b) {
			wantUnread(t, b[:n], api.ErrShort)
		}
		for _, rest := range []string{"\x00", "\x02", "\xff", b} {
			wantUnread(t, b+rest, api.ErrForm)
		}
	}
	for _, x := range []struct {
		b    string
		want api.Errno
	}{
		{"", api.ErrShort},
		{"\x82", api.ErrShort},
		{"\x82\x00", api.ErrForm},
		{"\x01", api.ErrFull},
		{"\x94\x00", api.ErrForm},
		{"\xff\xff\xff\xff\xff\xff\xff\xff\xff\x02", api.ErrForm},
		{"\x0e\x01", api.ErrFull},         // a negative case
		{"\x0e\x80\x00", api.ErrForm},     // one that is too long
		{"\x0e\x01\x00", api.ErrFull},     // ahead of what remains
		{"\x06\x00\x01", api.ErrFull},     // a negative length
		{"\x06\x00\x82\x01", api.ErrFull}, // 65 bytes, ahead of these
		{"\x06\x01\x82\x01", api.ErrFull},
		{"\x06\x00\x80\x00\x01", api.ErrForm},
		{"\x06\x00\x04r\x01", api.ErrShort},
		{"\x0a\x00\x00\x00\x00\x00\x01\xff", api.ErrForm},          // a kind that there is not, ahead of what remains
		{"\x0a\x00\x00\x00\x00\x00\x80", api.ErrShort},             // a kind that ends too early
		{"\x0a\x00\x00\x00\x00\x00\x80\x00", api.ErrForm},          // a kind that is too long
		{"\x0a\x00\x00\x00\x00\x00\x02", api.ErrShort},             // no integer
		{"\x0a\x00\x00\x00\x00\x00\x04\x02", api.ErrForm},          // no boolean
		{"\x0a\x00\x00\x00\x00\x00\x06\x01", api.ErrFull},          // a negative length
		{"\x0a\x00\x00\x00\x00\x00\x06\x04\x00", api.ErrShort},     // a text that ends too early, ahead of its character
		{"\x0a\x00\x00\x00\x00\x00\x06\x84\x08\x00", api.ErrShort}, // one that would be too long, too
		{"\x0a\x00\x00\x00\x00\x00\x06\x02\x00", api.ErrForm},
		{"\x0a\x00\x00\x00\x00\x01\x01", api.ErrFull}, // ahead of the kind
	} {
		wantUnread(t, x.b, x.want)
	}
}
