// Package wire is layer 1: it encodes numbers, booleans, strings and lists as bytes, and decodes them.
package wire

import (
	"math"
	"strings"

	"glacier/api"
)

// Enc gathers the encodings of values.
type Enc struct {
	last *piece
	size int
}

// piece is what one call appended. Pieces are never changed, so that a copy of an Enc stays what it was while the other one grows.
type piece struct {
	before *piece
	text   string
}

// U appends numbers.
func (e *Enc) U(l ...uint64) *Enc {
	var b []byte
	for _, v := range l {
		b = number(b, v)
	}
	return e.add(b)
}

// I appends non-negative integers; a value below 0 counts as 0.
func (e *Enc) I(l ...int) *Enc {
	return e.add(integers(nil, l...))
}

// B appends booleans.
func (e *Enc) B(l ...bool) *Enc {
	var b []byte
	for _, v := range l {
		if v {
			b = append(b, 1)
		} else {
			b = append(b, 0)
		}
	}
	return e.add(b)
}

// S appends strings.
func (e *Enc) S(l ...string) *Enc {
	var b []byte
	for _, v := range l {
		b = append(integers(b, len(v)), v...)
	}
	return e.add(b)
}

// List appends one list.
func (e *Enc) List(l ...int) *Enc {
	return e.add(integers(integers(nil, len(l)), l...))
}

// Bytes returns everything that was appended.
func (e *Enc) Bytes() string {
	b := make([]byte, e.size)
	end := e.size
	for p := e.last; p != nil; p = p.before {
		end -= len(p.text)
		copy(b[end:], p.text)
	}
	return string(b)
}

func (e *Enc) add(b []byte) *Enc {
	if len(b) > 0 {
		e.last = &piece{e.last, string(b)}
		e.size += len(b)
	}
	return e
}

// number appends the groups of v to b, without leading groups of 0.
func number(b []byte, v uint64) []byte {
	for shift := 63; shift > 0; shift -= 7 {
		if v>>shift != 0 {
			b = append(b, byte(v>>shift)|128)
		}
	}
	return append(b, byte(v)&127)
}

func integers(b []byte, l ...int) []byte {
	for _, v := range l {
		b = number(b, uint64(max(v, 0)))
	}
	return b
}

// Dec takes values from bytes, one after the other, until the first error.
type Dec struct {
	rest string
	err  api.Errno
}

// From returns a decoder at the beginning of s, of which it has a copy, since no argument is retained.
func From(s string) *Dec {
	return &Dec{rest: strings.Clone(s)}
}

// Err returns the first error.
func (d *Dec) Err() api.Errno {
	return d.err
}

// Left returns how many bytes are left.
func (d *Dec) Left() int {
	return len(d.rest)
}

// Fail sets the error, if there is none yet.
func (d *Dec) Fail(e api.Errno) {
	if d.err == api.OK {
		d.err = e
	}
}

// U takes a number.
func (d *Dec) U() uint64 {
	var v uint64
	for first := true; ; first = false {
		b := d.next()
		// A leading group of 0 would be a second encoding; a value beyond the limit has no room for another group.
		if first && b == 128 || v > math.MaxUint64>>7 {
			d.Fail(api.ErrForm)
		}
		if d.err != api.OK {
			return 0
		}
		v = v<<7 | uint64(b&127)
		if b < 128 {
			return v
		}
	}
}

// I takes an integer of at most most.
func (d *Dec) I(most int) int {
	v := d.U()
	if v > uint64(max(most, 0)) {
		d.Fail(api.ErrBig)
		return 0
	}
	return int(v)
}

// B takes a boolean.
func (d *Dec) B() bool {
	b := d.next()
	if b > 1 {
		d.Fail(api.ErrForm)
	}
	return b == 1
}

// S takes a string of at most most bytes. The result is a copy, so that a short string does not keep all bytes that it came from.
func (d *Dec) S(most int) string {
	n := d.I(most)
	if n > len(d.rest) {
		d.Fail(api.ErrEnd)
	}
	if d.err != api.OK {
		return ""
	}
	s := d.rest[:n]
	d.rest = d.rest[n:]
	return strings.Clone(s)
}

// List takes a list of at most most integers, each of at most each.
func (d *Dec) List(most, each int) []int {
	n := d.I(most)
	var l []int // not made with room for n, which the bytes that follow may not bear out
	for range n {
		v := d.I(each)
		if d.err != api.OK {
			return nil
		}
		l = append(l, v)
	}
	return l
}

// Done returns the first error, which is ErrForm if bytes are left without one.
func (d *Dec) Done() api.Errno {
	if len(d.rest) > 0 {
		d.Fail(api.ErrForm)
	}
	return d.err
}

// next takes a byte; it is 0 if there is an error.
func (d *Dec) next() byte {
	if d.rest == "" {
		d.Fail(api.ErrEnd)
	}
	if d.err != api.OK {
		return 0
	}
	b := d.rest[0]
	d.rest = d.rest[1:]
	return b
}
