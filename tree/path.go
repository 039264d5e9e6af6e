package tree

import (
	"cmp"
	"strings"

	"dossier/api"
	"dossier/chars"
)

// Path returns the path of an item's instance with a number below another one, or at the top if up is "".
func Path(up, item string, n int) string {
	part := item + "." + chars.Text(n)
	if up == "" {
		return part
	}
	return up + "/" + part
}

// Up returns path without its last part, "" if there is one part only.
func Up(path string) string {
	return path[:max(0, strings.LastIndex(path, "/"))]
}

// Last returns the item and the number of the last part of path, "" and 0 if it has none.
func Last(path string) (string, int) {
	part := path[strings.LastIndex(path, "/")+1:]
	dot := strings.LastIndex(part, ".")
	if dot < 1 {
		return "", 0
	}
	n, err := chars.Number(part[dot+1:])
	if err != api.OK || n < 1 {
		return "", 0
	}
	return part[:dot], n
}

// Order returns -1, 0 or 1, as a stands ahead of b, is b, or stands behind it.
func Order(a, b string) int {
	for {
		x, restOfA, moreOfA := strings.Cut(a, "/")
		y, restOfB, moreOfB := strings.Cut(b, "/")
		switch {
		case x != y:
			return partOrder(x, y)
		case !moreOfA && !moreOfB:
			return 0
		case !moreOfA:
			return -1
		case !moreOfB:
			return 1
		}
		a, b = restOfA, restOfB
	}
}

// Under reports whether a path is below another one.
func Under(path, up string) bool {
	rest, is := strings.CutPrefix(path, up)
	return is && strings.HasPrefix(rest, "/")
}

// At returns the shortest path, of those that lead to path and of path itself, whose last part has an item, and false if there is none.
func At(path, item string) (string, bool) {
	end := -1
	for part := range strings.SplitSeq(path, "/") {
		end += len("/") + len(part)
		if of, _ := Last(part); of == item {
			return path[:end], true
		}
	}
	return "", false
}

// partOrder is the order of two parts: by their items, then by their numbers, then, where these do not tell them apart, byte by byte.
func partOrder(x, y string) int {
	itemX, n := Last(x)
	itemY, m := Last(y)
	return cmp.Or(strings.Compare(itemX, itemY), cmp.Compare(n, m), strings.Compare(x, y))
}
