// Package chars is layer 1: UTF-8, the character classes of XML, and decimal numbers. See ../../shared/doc/01-chars.md.
package chars

import (
	"math"
	"strings"
	"unicode/utf8"

	"dossier/api"
)

// Decode returns the character with which b begins and its length in bytes, or 0, 0 if there is none.
func Decode(b []byte) (int, int) {
	r, size := utf8.DecodeRune(b)
	// An encoded U+FFFD has three bytes; a shorter one stands for a fault.
	if r == utf8.RuneError && size < 3 {
		return 0, 0
	}
	return int(r), size
}

// Encode returns the bytes of the character r, none if r is not a character.
func Encode(r int) []byte {
	if r < 0 || r > utf8.MaxRune || !utf8.ValidRune(rune(r)) {
		return nil
	}
	return utf8.AppendRune(nil, rune(r))
}

// Wrong returns the offset of the first byte at which no XML character begins, or -1.
func Wrong(b []byte) int {
	for at := 0; at < len(b); {
		r, size := Decode(b[at:])
		if size == 0 || !inXML(r) {
			return at
		}
		at += size
	}
	return -1
}

// Space reports whether r is a blank.
func Space(r int) bool {
	return r == '\t' || r == '\n' || r == '\r' || r == ' '
}

// First reports whether r is a name start character.
func First(r int) bool {
	return between(r, 'A', 'Z') || r == '_' || between(r, 'a', 'z') ||
		between(r, 0xc0, 0xd6) || between(r, 0xd8, 0xf6) || between(r, 0xf8, 0x2ff) ||
		between(r, 0x370, 0x37d) || between(r, 0x37f, 0x1fff) || between(r, 0x200c, 0x200d) ||
		between(r, 0x2070, 0x218f) || between(r, 0x2c00, 0x2fef) || between(r, 0x3001, 0xd7ff) ||
		between(r, 0xf900, 0xfdcf) || between(r, 0xfdf0, 0xfffd) || between(r, 0x10000, 0xeffff)
}

// Later reports whether r is a name character.
func Later(r int) bool {
	return First(r) || r == '-' || r == '.' || between(r, '0', '9') ||
		r == 0xb7 || between(r, 0x300, 0x36f) || between(r, 0x203f, 0x2040)
}

// Name reports whether s is a name start character followed by name characters.
func Name(s string) bool {
	// A range reads wrong bytes as U+FFFD, which is a name character.
	if s == "" || !utf8.ValidString(s) {
		return false
	}
	for i, r := range s {
		if i == 0 && !First(int(r)) || !Later(int(r)) {
			return false
		}
	}
	return true
}

// Number returns the number whose canonical decimal text is s.
func Number(s string) (int, api.Errno) {
	digits, minus := strings.CutPrefix(s, "-")
	if !numeral(digits) || minus && digits == "0" {
		return 0, api.ErrForm
	}
	n := 0
	for i := range len(digits) {
		d := int(digits[i] - '0')
		// n is the number's negative, since -2^63 has no positive counterpart.
		if n < (math.MinInt+d)/10 {
			return 0, api.ErrFull
		}
		n = 10*n - d
	}
	if minus {
		return n, api.OK
	}
	if n == math.MinInt {
		return 0, api.ErrFull
	}
	return -n, api.OK
}

// Text returns the canonical decimal text of n.
func Text(n int) string {
	var digits [20]byte // -2^63 has a sign and 19 digits
	rest := uint64(n)
	if n < 0 {
		rest = -rest
	}
	at := len(digits)
	for {
		at--
		digits[at] = byte('0' + rest%10)
		rest /= 10
		if rest == 0 {
			break
		}
	}
	if n < 0 {
		at--
		digits[at] = '-'
	}
	return string(digits[at:])
}

// inXML reports whether r is an XML character.
func inXML(r int) bool {
	return Space(r) || between(r, 0x20, 0xd7ff) || between(r, 0xe000, 0xfffd) || between(r, 0x10000, 0x10ffff)
}

// numeral reports whether s is one or more decimal digits without a leading zero.
func numeral(s string) bool {
	if s == "" || s[0] == '0' && s != "0" {
		return false
	}
	for i := range len(s) {
		if s[i] < '0' || s[i] > '9' {
			return false
		}
	}
	return true
}

func between(r, low, high int) bool { return low <= r && r <= high }
