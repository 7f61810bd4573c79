// Package seal is layer 2: it computes checksums of bytes and frames bytes with them.
package seal

import (
	"strings"

	"glacier/api"
)

// Head is how many bytes of a frame precede its contents.
const Head = 8

// MaxFrame is the most bytes that the contents of a frame may have.
const MaxFrame = 1 << 20

// steps[i] is the register i after four steps with data bits 0. A step is linear, so that four bits at once are the register's other bits, moved, xored with an element of this.
var steps = [16]uint32{
	0x00000000, 0x1db71064, 0x3b6e20c8, 0x26d930ac,
	0x76dc4190, 0x6b6b51f4, 0x4db26158, 0x5005713c,
	0xedb88320, 0xf00f9344, 0xd6d6a3e8, 0xcb61b38c,
	0x9b64c2b0, 0x86d3d2d4, 0xa00ae278, 0xbdbdf21c,
}

// Sum returns the checksum of the concatenation of strings.
func Sum(l ...string) uint32 {
	r := ^uint32(0)
	for _, s := range l {
		for i := range len(s) {
			r ^= uint32(s[i])
			r = r>>4 ^ steps[r&15]
			r = r>>4 ^ steps[r&15]
		}
	}
	return ^r
}

// Frame returns the frame of the concatenation of strings.
func Frame(l ...string) string {
	s := strings.Join(l, "")
	size := word(uint32(len(s)))
	return size + word(Sum(size, s)) + s
}

// Open returns the contents of the frame at the beginning of s, and how many bytes the frame has.
func Open(s string) (string, int, api.Errno) {
	if len(s) < Head {
		return "", 0, api.ErrEnd
	}
	size := number(s)
	if size > MaxFrame {
		return "", 0, api.ErrBig
	}
	end := Head + int(size)
	if len(s) < end {
		return "", 0, api.ErrEnd
	}
	if number(s[4:]) != Sum(s[:4], s[Head:end]) {
		return "", 0, api.ErrSum
	}
	return strings.Clone(s[Head:end]), end, api.OK
}

// Scan returns the contents of the frames at the beginning of s, as far as they can be opened, and how many bytes they occupy.
func Scan(s string) ([]string, int) {
	var l []string
	at := 0
	for {
		t, n, e := Open(s[at:])
		if e != api.OK {
			return l, at
		}
		l = append(l, t)
		at += n
	}
}

// Only returns the contents of the one frame that s consists of.
func Only(s string) (string, api.Errno) {
	t, n, e := Open(s)
	if e != api.OK {
		return "", e
	}
	if n < len(s) {
		return "", api.ErrForm
	}
	return t, api.OK
}

// word spells a number as four bytes, the most significant one first.
func word(v uint32) string {
	return string([]byte{byte(v >> 24), byte(v >> 16), byte(v >> 8), byte(v)})
}

// number reads the four bytes of a word at the beginning of s.
func number(s string) uint32 {
	return uint32(s[0])<<24 | uint32(s[1])<<16 | uint32(s[2])<<8 | uint32(s[3])
}
