package shape

import (
	"cmp"
	"iter"
	"slices"
	"strings"

	"dossier/api"
	"dossier/chars"
)

// Base returns the path of an instance path, and false if doc is none.
func Base(doc string) (string, bool) {
	l, is := read(doc)
	if !is {
		return "", false
	}
	names := make([]string, len(l))
	for i, p := range l {
		names[i] = p.name
	}
	return strings.Join(names, "."), true
}

// Up returns doc without its last part, "" if there is one part only.
func Up(doc string) string {
	return doc[:max(0, strings.LastIndex(doc, "."))]
}

// Last returns the last name and number of an instance path, "" and 0 if doc is none.
func Last(doc string) (string, int) {
	l, is := read(doc)
	if !is {
		return "", 0
	}
	last := l[len(l)-1]
	return last.name, last.n
}

// Join returns the path with a name and a number below another one, or at the top if up is "".
func Join(up, name string, n int) string {
	s := name + "#" + chars.Text(n)
	if up == "" {
		return s
	}
	return up + "." + s
}

// Order returns -1, 0 or 1, as a stands ahead of b, is b, or stands behind it.
func Order(a, b string) int {
	x, isX := read(a)
	y, isY := read(b)
	if !isX || !isY {
		return strings.Compare(a, b)
	}
	return slices.CompareFunc(x, y, func(p, q part) int {
		return cmp.Or(strings.Compare(p.name, q.name), cmp.Compare(p.n, q.n))
	})
}

// A part of an instance path.
type part struct {
	name string
	n    int
}

// read returns the parts of an instance path, and false if doc is none.
func read(doc string) ([]part, bool) {
	var l []part
	for p, is := range parts(doc) {
		if !is {
			return nil, false
		}
		l = append(l, p)
	}
	return l, true
}

// parts produces the parts of doc, with false for one that no instance path has.
func parts(doc string) iter.Seq2[part, bool] {
	return func(yield func(part, bool) bool) {
		for s := range strings.SplitSeq(doc, ".") {
			if !yield(partOf(s)) {
				return
			}
		}
	}
}

func partOf(s string) (part, bool) {
	name, digits, _ := strings.Cut(s, "#")
	n, err := chars.Number(digits)
	if !Name(name) || err != api.OK || n < 1 {
		return part{}, false
	}
	return part{name, n}, true
}
