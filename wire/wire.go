// Package wire is layer 2: the canonical binary encoding and CRC-32. See ../../shared/doc/02-wire.md.
package wire

import (
	"bytes"

	"dossier/api"
)

const (
	longest    = 10         // bytes of an encoded integer
	polynomial = 0xedb88320 // of the CRC-32, reflected
)

// Int returns b followed by the encoding of n.
func Int(b []byte, n int) []byte {
	return putInt(extend(b, longest), n)
}

// Text returns b followed by the encoding of s.
func Text(b []byte, s string) []byte {
	return append(putInt(extend(b, longest+len(s)), len(s)), s...)
}

// Flag returns b followed by the encoding of yes.
func Flag(b []byte, yes bool) []byte {
	var x byte
	if yes {
		x = 1
	}
	return append(extend(b, 1), x)
}

// extend returns a copy of b with room for more bytes: the spare capacity of b is its owner's.
func extend(b []byte, more int) []byte {
	return append(make([]byte, 0, len(b)+more), b...)
}

func putInt(b []byte, n int) []byte {
	u := 2 * uint64(n)
	if n < 0 {
		u = -u - 1
	}
	for u >= 0x80 {
		b = append(b, byte(u)|0x80)
		u >>= 7
	}
	return append(b, byte(u))
}

// getInt returns the integer with which b begins and its length in bytes.
func getInt(b []byte) (int, int, api.Errno) {
	var u uint64
	for i, x := range b {
		// Nine groups are 63 bits; a tenth byte that continues is above 1, too.
		if i == longest-1 && x > 1 || i > 0 && x == 0 {
			return 0, 0, api.ErrForm
		}
		u |= uint64(x&0x7f) << (7 * i)
		if x < 0x80 {
			return signed(u), i + 1, api.OK
		}
	}
	return 0, 0, api.ErrShort
}

func signed(u uint64) int {
	n := int(u / 2)
	if u%2 == 1 {
		return -n - 1
	}
	return n
}

// Reader reads encoded values one after another, up to the first error.
type Reader struct {
	left []byte
	err  api.Errno
	made bool
}

// Open returns a reader at the start of b.
func Open(b []byte) *Reader {
	return &Reader{left: bytes.Clone(b), made: true}
}

// Int reads an integer from low to high.
func (r *Reader) Int(low, high int) int {
	if r.Err() != api.OK {
		return 0
	}
	n, size, err := getInt(r.left)
	if err == api.OK && (n < low || n > high) {
		err = api.ErrFull
	}
	if err != api.OK {
		r.fail(err)
		return 0
	}
	r.left = r.left[size:]
	return n
}

// Text reads a string of most bytes or fewer.
func (r *Reader) Text(most int) string {
	size := r.Int(0, most)
	if r.Err() != api.OK {
		return ""
	}
	if size > len(r.left) {
		r.fail(api.ErrShort)
		return ""
	}
	s := string(r.left[:size])
	r.left = r.left[size:]
	return s
}

// Flag reads a boolean.
func (r *Reader) Flag() bool {
	if r.Err() != api.OK {
		return false
	}
	if len(r.left) == 0 {
		r.fail(api.ErrShort)
		return false
	}
	x := r.left[0]
	if x > 1 {
		r.fail(api.ErrForm)
		return false
	}
	r.left = r.left[1:]
	return x == 1
}

func (r *Reader) fail(err api.Errno) {
	r.err = err
	r.left = nil
}

// Err returns the first error.
func (r *Reader) Err() api.Errno {
	if r == nil || !r.made {
		return api.ErrNil
	}
	return r.err
}

// End returns the first error, or ErrForm if bytes remain.
func (r *Reader) End() api.Errno {
	if err := r.Err(); err != api.OK {
		return err
	}
	if len(r.left) > 0 {
		return api.ErrForm
	}
	return api.OK
}

// Left returns how many bytes remain, 0 after an error.
func (r *Reader) Left() int {
	if r == nil {
		return 0
	}
	return len(r.left)
}

// Crc returns the CRC-32 of b.
func Crc(b []byte) int {
	crc := ^uint32(0)
	for _, x := range b {
		crc ^= uint32(x)
		for range 8 {
			crc = crc>>1 ^ polynomial*(crc&1)
		}
	}
	return int(^crc)
}
