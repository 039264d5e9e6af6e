package journal

import "dossier/wire"

const width = 4 // bytes of a number in a header

// header is the beginning of a frame: the number of the bytes that follow, and their checksum.
type header [2 * width]byte

func headerOf(body []byte) header {
	var h header
	size, sum := len(body), wire.Crc(body)
	for i := range width {
		shift := 8 * (width - 1 - i)
		h[i] = byte(size >> shift)
		h[width+i] = byte(sum >> shift)
	}
	return h
}

// size returns how many bytes follow the header.
func (h header) size() int {
	n := 0
	for _, x := range h[:width] {
		n = n<<8 | int(x)
	}
	return n
}

// frame returns body with its header.
func frame(body []byte) []byte {
	h := headerOf(body)
	return append(h[:], body...)
}

// unframe returns what is in the frame with which b begins, or false if none does.
func unframe(b []byte) ([]byte, bool) {
	if len(b) < len(header{}) {
		return nil, false
	}
	h := header(b)
	rest := b[len(h):]
	if h.size() > len(rest) {
		return nil, false
	}
	body := rest[:h.size()]
	if headerOf(body) != h {
		return nil, false
	}
	return body, true
}

// split returns what is in the frames with which b begins, and their size in bytes.
func split(b []byte) ([][]byte, int) {
	var bodies [][]byte
	at := 0
	for {
		body, ok := unframe(b[at:])
		if !ok {
			return bodies, at
		}
		bodies = append(bodies, body)
		at += len(header{}) + len(body)
	}
}
