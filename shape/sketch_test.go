package shape

import (
	"math/rand"
	"regexp"
	"slices"
	"strconv"
	"strings"
	"testing"

	"dossier/api"
)

func pick[T any](r *rand.Rand, l ...T) T { return l[r.Intn(len(l))] }

// A flat definition is one with its place, and none of its kids.
type flat struct {
	item    api.FileItem
	path    string
	depth   int
	sibling []string // the names ahead of it in its list
}

func flatten(l []api.FileItem, up []string) []flat {
	var all []flat
	var names []string
	for _, f := range l {
		path := append(slices.Clone(up), f.Name)
		all = append(all, flat{f, strings.Join(path, "."), len(path), slices.Clone(names)})
		all = append(all, flatten(f.Kids, path)...)
		names = append(names, f.Name)
	}
	return all
}

var form = regexp.MustCompile(`^[A-Za-z_][A-Za-z_0-9]{0,63}$`)

// sketched is the first error of definitions, all of them laid out in a list.
func sketched(l []api.FileItem) api.Errno {
	all := flatten(l, nil)
	keywords := []string{"and", "or", "not", "true", "false", "count", "number"}
	known := map[string]bool{}
	for i, x := range all {
		switch {
		case x.depth > 24 || i >= 60:
			return 4
		case !form.MatchString(x.item.Name) || slices.Contains(keywords, x.item.Name):
			return 23
		case slices.Contains(x.sibling, x.item.Name):
			return 15
		case x.item.Kind < 0 || x.item.Kind > 3 || x.item.Multi < 0 || x.item.Multi > 3:
			return 22
		}
		known[x.path] = true
	}
	for _, x := range all {
		unknown, distinct := false, map[string]bool{}
		for _, ref := range x.item.Refs {
			unknown = unknown || !known[ref]
			distinct[ref] = true
		}
		switch {
		case len(x.item.Refs) > 8:
			return 4
		case unknown:
			return 23
		case len(distinct) < len(x.item.Refs):
			return 15
		}
	}
	return 0
}

// A maker makes definitions, of which some are wrong.
type maker struct {
	*rand.Rand
	wrong int // one in so many
	paths []string
}

func (k maker) errs() bool { return k.Intn(k.wrong) == 0 }

func (k maker) files(levels, most int) []api.FileItem {
	var l []api.FileItem
	for i := range k.Intn(most + 1) {
		f := api.FileItem{Name: string(rune('a' + i)), Kind: k.Intn(4), Multi: k.Intn(4)}
		if k.errs() {
			f.Name = pick(k.Rand, "a", "not", "", "a.b", "1", strings.Repeat("x", 65), "b")
		}
		if k.errs() {
			f.Kind = pick(k.Rand, -1, 4)
		}
		if k.errs() {
			f.Multi = pick(k.Rand, -1, 4)
		}
		if levels > 1 {
			f.Kids = k.files(levels-1, most)
		}
		l = append(l, f)
	}
	return l
}

// refer gives definitions references.
func (k maker) refer(l []api.FileItem) {
	for i := range l {
		for range k.Intn(4) {
			l[i].Refs = append(l[i].Refs, pick(k.Rand, k.paths...))
		}
		if k.errs() {
			l[i].Refs = append(l[i].Refs, pick(k.Rand, "x", "", "a.", "a#1"))
		}
		if !k.errs() {
			slices.Sort(l[i].Refs)
			l[i].Refs = slices.Compact(l[i].Refs)
		}
		if k.errs() {
			l[i].Refs = append(l[i].Refs, slices.Repeat([]string{"a"}, 6)...)
		}
		k.refer(l[i].Kids)
	}
}

// spelt is all that a definition is, nil and empty lists being the same.
func spelt(f api.FileItem) string {
	s := f.Name + ":" + strconv.Itoa(f.Kind) + ":" + strconv.Itoa(f.Multi) + strings.Join(append([]string{""}, f.Refs...), ">") + "("
	for _, kid := range f.Kids {
		s += spelt(kid)
	}
	return s + ")"
}

func TestP12_1Sketch(t *testing.T) {
	r := rand.New(rand.NewSource(12))
	met := map[api.Errno]int{}
	for range 30000 {
		k := maker{r, pick(r, 20, 100, 1000), []string{"x"}}
		l := k.files(1+r.Intn(4), 1+r.Intn(5))
		if r.Intn(20) == 0 {
			l = append(l, nest(20+r.Intn(8))...)
		}
		all := flatten(l, nil)
		if len(all) > 0 {
			k.paths = nil
		}
		for _, x := range all {
			k.paths = append(k.paths, x.path)
		}
		k.refer(l)
		want := sketched(l)
		if err := Check(l); err != want {
			t.Fatalf("Check(%+v) = error %d, want error %d", l, err, want)
		}
		met[want]++
		if got := Paths(l); !slices.Equal(got, k.paths) && len(all) > 0 {
			t.Fatalf("Paths(%+v) = %q, want %q", l, got, k.paths)
		}
		if want == api.OK {
			for _, x := range flatten(l, nil) {
				if f, is := Find(l, x.path); !is || spelt(f) != spelt(x.item) {
					t.Fatalf("Find(%+v, %q) = %+v, %t", l, x.path, f, is)
				}
			}
		}
	}
	if met[api.OK] < 5000 || met[api.ErrFull] < 700 || met[api.ErrName] < 700 || met[api.ErrTwice] < 700 || met[api.ErrKind] < 700 {
		t.Error("one-sided:", met)
	}
}

var partForm = regexp.MustCompile(`^([A-Za-z_][A-Za-z_0-9]{0,63})#([1-9][0-9]*)$`)

// parsed are the names and numbers of an instance path.
func parsed(s string) (names []string, numbers []uint64, is bool) {
	for _, x := range strings.Split(s, ".") {
		m := partForm.FindStringSubmatch(x)
		if m == nil || slices.Contains([]string{"and", "or", "not", "true", "false", "count", "number"}, m[1]) {
			return nil, nil, false
		}
		n, err := strconv.ParseUint(m[2], 10, 63)
		if err != nil {
			return nil, nil, false
		}
		names, numbers = append(names, m[1]), append(numbers, n)
	}
	return names, numbers, true
}

func scribble(r *rand.Rand, wrong bool) string {
	s := ""
	for i := range 1 + r.Intn(3) {
		if i > 0 {
			s += "."
		}
		s += pick(r, "a", "b", "aa", "A", "_") + "#" + pick(r, "1", "2", "10", "9", "9223372036854775807")
	}
	for wrong && r.Intn(3) > 0 {
		at := r.Intn(len(s) + 1)
		s = s[:at] + pick(r, ".", "#", "1", "0", "a", "not", "-", " ", "\x00", "9223372036854775808") + s[at+r.Intn(len(s)-at+1):]
	}
	return s
}

func TestP12_3Sketch(t *testing.T) {
	r := rand.New(rand.NewSource(123))
	right := 0
	for i := range 60000 {
		s := scribble(r, i%2 == 0)
		names, numbers, want := parsed(s)
		base, is := Base(s)
		name, n := Last(s)
		fits := is == want && base == strings.Join(names, ".")
		if want {
			right++
			last := len(names) - 1
			fits = fits && name == names[last] && uint64(n) == numbers[last] && Join(Up(s), name, n) == s
		} else {
			fits = fits && name == "" && n == 0
		}
		if !fits {
			t.Fatalf("%q: Base %q, %t, Last %q, %d, want %q, %v, %t", s, base, is, name, n, names, numbers, want)
		}
	}
	if right < 35000 || right > 55000 {
		t.Error("one-sided:", right)
	}
}

// key is a text whose bytes are in the order of instance paths: a part ends lower than any name goes on, and numbers are of one length.
func key(s string) (string, bool) {
	names, numbers, is := parsed(s)
	var b strings.Builder
	for i, name := range names {
		digits := strconv.FormatUint(numbers[i], 10)
		b.WriteString(name + "\x00" + strings.Repeat("0", 20-len(digits)) + digits + "\x00")
	}
	return b.String(), is
}

func TestP12_4Sketch(t *testing.T) {
	r := rand.New(rand.NewSource(124))
	for i := range 60000 {
		a, b := scribble(r, i%5 == 0), scribble(r, i%7 == 0)
		if i%3 == 0 {
			b = a + pick(r, "", ".a#1", ".b#10", "0")
		}
		x, isA := key(a)
		y, isB := key(b)
		if !isA || !isB {
			x, y = a, b
		}
		if want := strings.Compare(x, y); Order(a, b) != want {
			t.Fatalf("Order(%q, %q) = %d, want %d", a, b, Order(a, b), want)
		}
	}
}

func TestP12_4TotalOrder(t *testing.T) {
	r := rand.New(rand.NewSource(412))
	l := ascending()
	for range 60 {
		l = append(l, scribble(r, false))
	}
	for _, a := range l {
		for _, b := range l {
			ab := Order(a, b)
			if ab != -Order(b, a) || (ab == 0) != (a == b) {
				t.Fatalf("Order(%q, %q) = %d, back %d", a, b, ab, Order(b, a))
			}
			for _, c := range l {
				if ab < 0 && Order(b, c) < 0 && Order(a, c) >= 0 {
					t.Fatalf("%q, %q, %q", a, b, c)
				}
			}
		}
	}
	want := ascending()
	r.Shuffle(len(want), func(i, k int) { want[i], want[k] = want[k], want[i] })
	slices.SortFunc(want, Order)
	if !slices.Equal(want, ascending()) {
		t.Errorf("sorted: %q", want)
	}
}
