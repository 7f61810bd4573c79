package tapefmt_test

import (
	"encoding/hex"
	"fmt"
	"math"
	"slices"
	"strings"
	"testing"

	"glacier/api"
	"glacier/reel"
	"glacier/seal"
	"glacier/tapefmt"
	"glacier/wire"
)

func want[T comparable](t *testing.T, what string, got, want T) {
	t.Helper()
	if got != want {
		t.Errorf("%s: %#v, want %#v", what, got, want)
	}
}

// must ends the test if a call that prepares it fails.
func must(t *testing.T, l ...api.Errno) {
	t.Helper()
	for i, e := range l {
		if e != api.OK {
			t.Fatalf("call %d: %d", i, e)
		}
	}
}

// bytesOf returns n bytes, which depend on n and the blob, so that no two parts of it are the same.
func bytesOf(blob uint64, n int) string {
	b := make([]byte, n)
	for i := range b {
		b[i] = byte(i*7 + i/256 + int(blob)*31 + n)
	}
	return string(b)
}

// volume returns a labelled volume without blocks.
func volume(t *testing.T, room int, label string) *reel.Volume {
	t.Helper()
	v := reel.New(room)
	must(t, v.Erase(label))
	return v
}

// add writes a blob that has to fit, and returns its first block.
func add(t *testing.T, v *reel.Volume, blob uint64, data string) int {
	t.Helper()
	from, e := tapefmt.Write(v, blob, data)
	must(t, e)
	return from
}

// tornVolume returns a volume with a blob 7 of two parts, and its mark, in blocks 0 to 2, and a torn block 3.
func tornVolume(t *testing.T) *reel.Volume {
	t.Helper()
	v := volume(t, 2000, "V0")
	add(t, v, 7, bytesOf(7, 300))
	must(t, v.Write("torn"))
	v.Crash([]int{0, 2})
	want(t, "Len", v.Len(), 4)
	must(t, v.Seek(3))
	_, _, e := v.Read()
	want(t, "Read of the torn block", e, api.ErrSum)
	return v
}

func wantRead(t *testing.T, what string, v *reel.Volume, from int, blob uint64, data string, e api.Errno) {
	t.Helper()
	got, err := tapefmt.Read(v, from, blob)
	want(t, what+": error", err, e)
	if got != data {
		t.Errorf("%s: %d bytes, which are not the %d wanted ones", what, len(got), len(data))
	}
}

func wantScan(t *testing.T, what string, v *reel.Volume, end int, l ...tapefmt.Item) {
	t.Helper()
	got, n, e := tapefmt.Scan(v)
	want(t, what+": error", e, api.OK)
	want(t, what+": end", n, end)
	if !slices.Equal(got, l) {
		t.Errorf("%s: %v, want %v", what, got, l)
	}
}

// P7.1: a blob has a block for each 200 bytes, and at least one.
func TestParts(t *testing.T) {
	want(t, "MaxPart", tapefmt.MaxPart, 200)
	for size, parts := range map[int]int{
		0: 1, 1: 1, 199: 1, 200: 1, 201: 2, 399: 2, 400: 2, 401: 3, 3999: 20, 4000: 20, 4001: 21,
		-1: 1, -200: 1, -201: 1, math.MinInt: 1, math.MaxInt: math.MaxInt/200 + 1,
	} {
		want(t, fmt.Sprint("Parts of ", size), tapefmt.Parts(size), parts)
	}
}

// P7.1: the weight of a blob is that of its bytes, of its blocks and of its mark.
func TestWeight(t *testing.T) {
	for size, weight := range map[int]int{
		0: 80, 1: 81, 199: 279, 200: 280, 201: 357, 400: 556, 401: 633, 4000: 5524, 4001: 5601,
		-1: 80, -200: 80, math.MinInt: 80, 1 << 30: 1<<30 + 76*5368710 + 4,
	} {
		want(t, fmt.Sprint("Weight of ", size), tapefmt.Weight(size), weight)
	}
}

// P7.1: no blob occupies more than its weight.
func TestWeightIsEnough(t *testing.T) {
	for _, size := range []int{0, 1, 127, 128, 199, 200, 201, 3999, 4000} {
		data := bytesOf(1, size)
		used := reel.Over
		for i := range tapefmt.Parts(size) {
			p := tapefmt.Piece{strings.Repeat("l", api.MaxName), 1 << 30, math.MaxUint64, i, tapefmt.Parts(size), size, math.MaxUint32, data[i*200 : min(i*200+200, size)]}
			used += reel.Over + len(tapefmt.Spell(p))
		}
		if used > tapefmt.Weight(size) {
			t.Errorf("a blob of %d bytes may occupy %d, and its weight is %d", size, used, tapefmt.Weight(size))
		}
	}
}

// P7.1: the encoding of a piece, byte by byte.
func TestSpell(t *testing.T) {
	for _, c := range []struct {
		p    tapefmt.Piece
		code string
	}{
		{tapefmt.Piece{"V0", 300, 5, 0, 1, 1, 0xe8b7be43, "a"},
			"00000010dd11c8c4 025630 822c 05 00 01 01 8ec5defc43 0161"},
		{tapefmt.Piece{Parts: 1}, "0000000878b10312 00 00 00 00 01 00 00 00"},
		{tapefmt.Piece{"V3.12", 1 << 30, math.MaxUint64, 19, 20, 4000, math.MaxUint32, "xy"},
			"000000212ffff170 0556332e3132 8480808000 81ffffffffffffffff7f 13 14 9f20 8fffffff7f 027879"},
	} {
		code, _ := hex.DecodeString(strings.ReplaceAll(c.code, " ", ""))
		want(t, "Spell", hex.EncodeToString([]byte(tapefmt.Spell(c.p))), hex.EncodeToString(code))
		p, e := tapefmt.Parse(string(code))
		want(t, "Parse", e, api.OK)
		want(t, "Parse", p, c.p)
	}
	p := tapefmt.Piece{Block: -1, Part: -1, Parts: -5, Size: math.MinInt}
	want(t, "Spell of numbers below 0", tapefmt.Spell(p), tapefmt.Spell(tapefmt.Piece{}))
}

// fields are those of a piece, as they are encoded, within their limits or beyond.
type fields struct {
	label             string
	block, blob       uint64
	part, parts, size uint64
	sum               uint64
	data, rest        string
}

func (f fields) contents() string {
	var e wire.Enc
	return e.S(f.label).U(f.block, f.blob, f.part, f.parts, f.size, f.sum).S(f.data).Bytes() + f.rest
}

// P7.1: each field of a piece has a limit, up to which a piece is decoded.
func TestParseLimits(t *testing.T) {
	long := strings.Repeat("x", 201)
	for what, c := range map[string]struct {
		f fields
		e api.Errno
	}{
		"nothing":               {fields{parts: 1}, api.OK},
		"the longest label":     {fields{label: long[:32], parts: 1}, api.OK},
		"a longer label":        {fields{label: long[:33], parts: 1}, api.ErrBig},
		"the greatest block":    {fields{block: 1 << 30, parts: 1}, api.OK},
		"a greater block":       {fields{block: 1<<30 + 1, parts: 1}, api.ErrBig},
		"the greatest blob":     {fields{blob: math.MaxUint64, parts: 1}, api.OK},
		"the greatest part":     {fields{part: 1<<20 - 1, parts: 1 << 20}, api.OK},
		"part is parts":         {fields{part: 1 << 20, parts: 1 << 20}, api.ErrForm},
		"a greater part":        {fields{part: 1<<20 + 1, parts: 1 << 20}, api.ErrBig},
		"greater parts":         {fields{parts: 1<<20 + 1}, api.ErrBig},
		"no parts":              {fields{}, api.ErrForm},
		"part 1 of 1":           {fields{part: 1, parts: 1}, api.ErrForm},
		"part 1 of 2":           {fields{part: 1, parts: 2}, api.OK},
		"part 2 of 1":           {fields{part: 2, parts: 1}, api.ErrForm},
		"the greatest size":     {fields{parts: 1, size: 4000}, api.OK},
		"a greater size":        {fields{parts: 1, size: 4001}, api.ErrBig},
		"a size beyond int":     {fields{parts: 1, size: math.MaxUint64}, api.ErrBig},
		"the greatest checksum": {fields{parts: 1, sum: math.MaxUint32}, api.OK},
		"a greater checksum":    {fields{parts: 1, sum: 1 << 32}, api.ErrForm},
		"a checksum of 64 bits": {fields{parts: 1, sum: math.MaxUint64}, api.ErrForm},
		"the most bytes":        {fields{parts: 1, data: long[:200]}, api.OK},
		"more bytes":            {fields{parts: 1, data: long}, api.ErrBig},
		"bytes left":            {fields{parts: 1, rest: "\x00"}, api.ErrForm},
		// the decoder's error comes before the others
		"no parts, and more bytes":           {fields{data: long}, api.ErrBig},
		"a greater checksum, and more bytes": {fields{parts: 1, sum: 1 << 32, data: long}, api.ErrBig},
		"a longer label, and no parts":       {fields{label: long}, api.ErrBig},
		"more bytes, and bytes left":         {fields{parts: 1, data: long, rest: "x"}, api.ErrBig},
	} {
		p, e := tapefmt.Parse(seal.Frame(c.f.contents()))
		want(t, what, e, c.e)
		if e != api.OK {
			want(t, what, p, tapefmt.Piece{})
			continue
		}
		f := c.f
		want(t, what, p, tapefmt.Piece{f.label, int(f.block), f.blob, int(f.part), int(f.parts), int(f.size), uint32(f.sum), f.data})
	}
}

// P7.1: contents that are cut off, or not in the one encoding, are no piece.
func TestParseContents(t *testing.T) {
	s := fields{"V0", 300, 1 << 40, 1, 2, 201, 1 << 31, "x", ""}.contents()
	for n := range s {
		_, e := tapefmt.Parse(seal.Frame(s[:n]))
		want(t, fmt.Sprint("the first ", n, " bytes"), e, api.ErrEnd)
	}
	for _, c := range []struct {
		contents string
		e        api.Errno
	}{
		{"\x80\x00" + s[1:], api.ErrForm},
		{s[:3] + "\x80" + s[3:], api.ErrForm},
		{"\x01", api.ErrEnd},
		{"\x21", api.ErrBig},
		{"\x21" + s, api.ErrBig},
		// parts are 0, and the bytes end in the checksum, or before bytes that it says there are
		{"\x00\x00\x00\x00\x00\x00\x81", api.ErrEnd},
		{"\x00\x00\x00\x00\x00\x00\x00\x01", api.ErrEnd},
		{"\x00\x00\x00\x00\x00\x00\x80", api.ErrForm},
		{"\x00\x00\x00\x00\x00\x00\x00\x00", api.ErrForm},
	} {
		p, e := tapefmt.Parse(seal.Frame(c.contents))
		want(t, fmt.Sprintf("Parse %q", c.contents), e, c.e)
		want(t, fmt.Sprintf("Parse %q", c.contents), p, tapefmt.Piece{})
	}
}

// P7.1: Parse returns the errors of seal.Only.
func TestParseFrame(t *testing.T) {
	s := tapefmt.Spell(tapefmt.Piece{"V0", 1, 2, 0, 1, 3, 4, "abc"})
	for _, c := range []struct {
		what, s string
		e       api.Errno
	}{
		{"no bytes", "", api.ErrEnd},
		{"a part of a head", s[:7], api.ErrEnd},
		{"a head", s[:8], api.ErrEnd},
		{"a part of a frame", s[:len(s)-1], api.ErrEnd},
		{"a byte more", s + "x", api.ErrForm},
		{"two frames", s + s, api.ErrForm},
		{"a frame that is too long", "\xff" + s[1:], api.ErrBig},
		{"a changed checksum", s[:4] + string([]byte{s[4] ^ 1}) + s[5:], api.ErrSum},
		{"changed bytes", s[:len(s)-1] + "d", api.ErrSum},
		{"changed bytes, and a byte more", s[:len(s)-1] + "dx", api.ErrSum},
		{"an empty frame", seal.Frame(), api.ErrEnd},
	} {
		p, e := tapefmt.Parse(c.s)
		want(t, c.what, e, c.e)
		want(t, c.what, p, tapefmt.Piece{})
	}
}

// P7.1: the chapter's example.
func TestExample(t *testing.T) {
	v := volume(t, 10000, "V0")
	want(t, "Write", add(t, v, 1, bytesOf(1, 401)), 0)
	want(t, "Len", v.Len(), 4)
	want(t, "Write of the next blob", add(t, v, 2, "x"), 4)
	want(t, "Len", v.Len(), 6)
}

// P7.1: Write appends the pieces of a blob and a mark, durably, from any position.
func TestWrite(t *testing.T) {
	v := volume(t, 1<<20, "V3.1")
	from := 0
	for i, size := range []int{0, 1, 199, 200, 201, 400, 401, 4000, 0} {
		blob := uint64(i) << 40
		data := bytesOf(blob, size)
		must(t, v.Seek(v.Len()/2))
		want(t, "Write", add(t, v, blob, data), from)
		want(t, "At", v.At(), v.Len())
		v.Crash(nil)
		parts := max(1, (size+199)/200)
		want(t, "Len", v.Len(), from+parts+1)
		for part := range parts {
			must(t, v.Seek(from+part))
			s, mark, e := v.Read()
			must(t, e)
			want(t, "a part is a mark", mark, false)
			want(t, "piece", s, tapefmt.Spell(tapefmt.Piece{"V3.1", from + part, blob, part, parts, size, seal.Sum(data), data[200*part : min(size, 200*part+200)]}))
		}
		_, mark, e := v.Read()
		must(t, e)
		want(t, "the mark", mark, true)
		from = v.Len()
	}
}

// P7.1: Write needs as much free space as the blob's weight, though it may use less.
func TestWriteFull(t *testing.T) {
	for _, size := range []int{0, 1, 200, 201, 4000} {
		for less := range 2 {
			v := volume(t, 80+tapefmt.Weight(size)-less, "V0")
			must(t, v.Write(strings.Repeat("x", 76)))
			must(t, v.Seek(0))
			from, e := tapefmt.Write(v, 7, bytesOf(7, size))
			if less == 0 {
				want(t, "Write", e, api.OK)
				want(t, "Write", from, 1)
				continue
			}
			want(t, "Write", e, api.ErrFull)
			want(t, "Write", from, 0)
			want(t, "Len", v.Len(), 1)
			want(t, "At", v.At(), 1)
		}
	}
}

// P7.1: Write returns the first error, and then does nothing more.
func TestWriteErrors(t *testing.T) {
	v := volume(t, 5528, "V0")
	must(t, v.Mark())
	big := bytesOf(1, 4001)
	wantWrite := func(what, data string, e api.Errno) {
		t.Helper()
		n := v.Len()
		from, err := tapefmt.Write(v, 1, data)
		want(t, what, err, e)
		want(t, what, from, 0)
		want(t, what+": Len", v.Len(), n)
	}
	v.Protect(true)
	wantWrite("too many bytes", big, api.ErrBig)
	v.Fail(0)
	wantWrite("too many bytes, and the volume is armed", big, api.ErrBig)
	wantWrite("the volume is armed", "x", api.ErrIO)
	wantWrite("protected", big[:4000], api.ErrProtect)
	must(t, v.Take(1))
	wantWrite("protected and full", big[:4000], api.ErrFull)
	wantWrite("protected and not full", big[:3999], api.ErrProtect)
	v.Fail(0)
	wantWrite("the volume is armed and full", big[:4000], api.ErrIO)
	v.Lose()
	wantWrite("lost and full", big[:4000], api.ErrLost)
	wantWrite("lost, and too many bytes", big, api.ErrBig)

	v = tornVolume(t)
	wantWrite("torn", "x", api.ErrOrder)
	want(t, "At", v.At(), 4)
	wantWrite("torn and full", big[:4000], api.ErrFull)
	v.Protect(true)
	wantWrite("torn and protected", "x", api.ErrProtect)
}

// P7.1: wherever a Write fails, its error is returned, and what was written before is there.
func TestWriteFails(t *testing.T) {
	data := bytesOf(8, 401)
	for n := range 7 {
		v := volume(t, 10000, "V0")
		old := add(t, v, 7, "old")
		v.Fail(n)
		from, e := tapefmt.Write(v, 8, data)
		// a Seek, three blocks, a mark and a Flush
		if n == 6 {
			must(t, e)
			want(t, "the volume is still armed", v.Try(), api.ErrIO)
			continue
		}
		want(t, "Write", e, api.ErrIO)
		want(t, "Write", from, 0)
		want(t, "Len", v.Len(), 2+max(0, min(n-1, 4)))
		wantRead(t, "the blob before it", v, old, 7, "old", api.OK)
		v.Crash(nil)
		want(t, "Len after a crash", v.Len(), 2)
	}
}

// P7.1: Read returns a blob that begins at a block, from any position.
func TestRead(t *testing.T) {
	v := volume(t, 1<<20, "V0")
	sizes := []int{0, 1, 199, 200, 201, 400, 401, 4000, 5}
	var from []int
	for i, size := range sizes {
		from = append(from, add(t, v, uint64(i), bytesOf(uint64(i), size)))
	}
	for i, size := range sizes {
		must(t, v.Seek(v.Len()/2))
		wantRead(t, fmt.Sprint("blob ", i), v, from[i], uint64(i), bytesOf(uint64(i), size), api.OK)
		want(t, "At", v.At(), from[i]+tapefmt.Parts(size))
	}
	v.Protect(true)
	wantRead(t, "of a protected volume", v, from[2], 2, bytesOf(2, 199), api.OK)
}

// P7.1: Read returns the first error that it comes across.
func TestReadErrors(t *testing.T) {
	v := tornVolume(t) // blocks 0 and 1 are blob 7, block 2 is a mark
	for _, from := range []int{-1, 5, math.MinInt, math.MaxInt} {
		wantRead(t, fmt.Sprint("from ", from), v, from, 7, "", api.ErrArg)
	}
	wantRead(t, "whole", v, 0, 7, bytesOf(7, 300), api.OK)
	wantRead(t, "another blob", v, 0, 8, "", api.ErrForm)
	wantRead(t, "the second part", v, 1, 7, "", api.ErrForm)
	wantRead(t, "a mark", v, 2, 7, "", api.ErrForm)
	wantRead(t, "torn", v, 3, 7, "", api.ErrSum)
	wantRead(t, "the end", v, 4, 7, "", api.ErrEnd)
	must(t, v.Trim(), v.Seek(3), v.Write(""), v.Write("seven b"), v.Write(seal.Frame("x")))
	wantRead(t, "a block without bytes", v, 3, 7, "", api.ErrEnd)
	wantRead(t, "a few bytes", v, 4, 7, "", api.ErrEnd)
	wantRead(t, "a frame that is no piece", v, 5, 7, "", api.ErrBig)
	for n := range 3 { // a Seek and two blocks
		v.Fail(n)
		wantRead(t, fmt.Sprint("armed with ", n), v, 0, 7, "", api.ErrIO)
	}
	v.Fail(3)
	wantRead(t, "armed with 3", v, 0, 7, bytesOf(7, 300), api.OK)
	want(t, "the volume is still armed", v.Try(), api.ErrIO)
	v.Fail(0)
	wantRead(t, "armed, from no block", v, -1, 7, "", api.ErrIO)
	v.Lose()
	wantRead(t, "lost", v, 0, 7, "", api.ErrLost)
	wantRead(t, "lost, from no block", v, -1, 7, "", api.ErrLost)
}

// P7.1: the blocks of a blob may end, be torn, or be followed by others, before its last part.
func TestReadOfSomeParts(t *testing.T) {
	for what, c := range map[string]struct {
		after func(v *reel.Volume)
		e     api.Errno
	}{
		"nothing":      {func(v *reel.Volume) {}, api.ErrEnd},
		"a mark":       {func(v *reel.Volume) { v.Mark() }, api.ErrForm},
		"no piece":     {func(v *reel.Volume) { v.Write(strings.Repeat("x", 9)) }, api.ErrBig},
		"another blob": {func(v *reel.Volume) { tapefmt.Write(v, 8, "eight") }, api.ErrForm},
		"it again":     {func(v *reel.Volume) { tapefmt.Write(v, 7, bytesOf(7, 401)) }, api.ErrForm},
		"a torn block": {func(v *reel.Volume) { v.Flush(); v.Write("xyz"); v.Crash([]int{0, 1}) }, api.ErrSum},
	} {
		v := volume(t, 10000, "V0")
		v.Fail(3)
		_, e := tapefmt.Write(v, 7, bytesOf(7, 401))
		want(t, "Write", e, api.ErrIO)
		want(t, "Len", v.Len(), 2)
		c.after(v)
		wantRead(t, "before "+what, v, 0, 7, "", c.e)
	}
}

// P7.1: a piece has to say what its block, its volume and the parts before it are.
func TestReadPieces(t *testing.T) {
	data := bytesOf(7, 300)
	sum := seal.Sum(data)
	right := tapefmt.Piece{"V0", 2, 7, 1, 2, 300, sum, data[200:]}
	for what, c := range map[string]struct {
		change func(p *tapefmt.Piece)
		e      api.Errno
	}{
		"nothing":            {func(p *tapefmt.Piece) {}, api.OK},
		"no label":           {func(p *tapefmt.Piece) { p.Label = "" }, api.ErrForm},
		"another label":      {func(p *tapefmt.Piece) { p.Label = "V0.1" }, api.ErrForm},
		"too long a label":   {func(p *tapefmt.Piece) { p.Label = strings.Repeat("V", 33) }, api.ErrBig},
		"the block before":   {func(p *tapefmt.Piece) { p.Block = 1 }, api.ErrForm},
		"the block after":    {func(p *tapefmt.Piece) { p.Block = 3 }, api.ErrForm},
		"another blob":       {func(p *tapefmt.Piece) { p.Blob = 8 }, api.ErrForm},
		"the part before":    {func(p *tapefmt.Piece) { p.Part = 0 }, api.ErrForm},
		"the part after":     {func(p *tapefmt.Piece) { p.Part, p.Parts, p.Size = 2, 3, 401 }, api.ErrForm},
		"more parts":         {func(p *tapefmt.Piece) { p.Parts = 3 }, api.ErrForm},
		"a size of one part": {func(p *tapefmt.Piece) { p.Size = 200 }, api.ErrForm},
		"three parts":        {func(p *tapefmt.Piece) { p.Parts, p.Size = 3, 401 }, api.ErrEnd},
		"too great a size":   {func(p *tapefmt.Piece) { p.Size, p.Parts = 4001, 21 }, api.ErrBig},
		"one byte less":      {func(p *tapefmt.Piece) { p.Data = p.Data[1:] }, api.ErrSum},
		"one byte more":      {func(p *tapefmt.Piece) { p.Data += "x" }, api.ErrSum},
		"another byte":       {func(p *tapefmt.Piece) { p.Data = p.Data[:99] + "?" }, api.ErrSum},
		"a smaller size":     {func(p *tapefmt.Piece) { p.Size = 299 }, api.ErrSum},
		"a greater size":     {func(p *tapefmt.Piece) { p.Size = 301 }, api.ErrSum},
		"another checksum":   {func(p *tapefmt.Piece) { p.Sum++ }, api.ErrSum},
	} {
		v := volume(t, 10000, "V0")
		must(t, v.Mark(), v.Write(tapefmt.Spell(tapefmt.Piece{"V0", 1, 7, 0, 2, 300, sum, data[:200]})))
		p := right
		c.change(&p)
		must(t, v.Write(tapefmt.Spell(p)))
		if c.e == api.OK {
			wantRead(t, what, v, 1, 7, data, api.OK)
			wantScan(t, what, v, 3, tapefmt.Item{7, 1, 300})
			continue
		}
		wantRead(t, what, v, 1, 7, "", c.e)
		wantScan(t, what, v, 0)
	}
}

// P7.1: Scan finds all blobs that can be read, wherever they begin, and whatever is between them.
func TestScan(t *testing.T) {
	v := volume(t, 100000, "V0")
	wantScan(t, "no blocks", v, 0)
	must(t, v.Mark(), v.Write(""), v.Write("x"))
	wantScan(t, "no blobs", v, 0)
	add(t, v, 7, bytesOf(7, 401))
	wantScan(t, "one blob", v, 6, tapefmt.Item{7, 3, 401})
	must(t, v.Mark(), v.Write(seal.Frame("x")))
	wantScan(t, "and others", v, 6, tapefmt.Item{7, 3, 401})
	add(t, v, 0, "")
	add(t, v, 7, bytesOf(7, 200))
	add(t, v, 7, bytesOf(7, 200))
	all := []tapefmt.Item{{7, 3, 401}, {0, 9, 0}, {7, 11, 200}, {7, 13, 200}}
	wantScan(t, "four blobs", v, 14, all...)
	v.Fail(4)
	tapefmt.Write(v, 9, bytesOf(9, 1000))
	want(t, "Len", v.Len(), 18)
	wantScan(t, "and a part of one", v, 14, all...)
	must(t, v.Write(tapefmt.Spell(tapefmt.Piece{"V0", 18, 5, 0, 1, 0, 0, ""})))
	must(t, v.Write(tapefmt.Spell(tapefmt.Piece{"V0", 19, 6, 0, 1, 0, 0, ""})))
	all = append(all, tapefmt.Item{5, 18, 0}, tapefmt.Item{6, 19, 0})
	wantScan(t, "and blobs without marks", v, 20, all...)
	v.Flush()
	v.Write("torn")
	v.Crash([]int{0, 1})
	must(t, v.Seek(3))
	wantScan(t, "and a torn block", v, 20, all...)
	v.Protect(true)
	wantScan(t, "of a protected volume", v, 20, all...)
	v.Protect(false)
	must(t, v.Erase("V0"))
	wantScan(t, "erased", v, 0)
}

// P7.1: the blobs of a volume are not those that it had under another label.
func TestScanOfAnotherLabel(t *testing.T) {
	v := volume(t, 100000, "V0.1")
	must(t, v.Write(tapefmt.Spell(tapefmt.Piece{"V0.0", 0, 5, 0, 1, 0, 0, ""})))
	add(t, v, 6, "six")
	wantScan(t, "of V0.0 and of V0.1", v, 2, tapefmt.Item{6, 1, 3})
}

// P7.1: Scan returns ErrLost or ErrIO, if the volume does, and then no items.
func TestScanFails(t *testing.T) {
	fails := func(what string, v *reel.Volume, e api.Errno) {
		t.Helper()
		l, n, err := tapefmt.Scan(v)
		want(t, what, err, e)
		want(t, what+": items", len(l), 0)
		want(t, what+": end", n, 0)
	}
	v := volume(t, 100000, "V0")
	v.Fail(0)
	fails("no blocks, and armed", v, api.ErrIO)
	add(t, v, 7, bytesOf(7, 401))
	add(t, v, 8, "eight")
	items := []tapefmt.Item{{7, 0, 401}, {8, 4, 5}}
	wantScan(t, "two blobs", v, 5, items...)
	for n := 0; ; n++ {
		v.Fail(n)
		l, _, e := tapefmt.Scan(v)
		if e == api.OK { // it has not got as far as the call that fails
			want(t, "a Scan of six blocks makes six calls, or more", n >= 6, true)
			want(t, fmt.Sprint("armed with ", n), slices.Equal(l, items), true)
			break
		}
		v.Fail(n)
		fails(fmt.Sprint("armed with ", n), v, api.ErrIO)
	}
	v.Fail(-1)
	v.Lose()
	fails("lost", v, api.ErrLost)
	empty := reel.New(100)
	empty.Lose()
	fails("lost, and no blocks", empty, api.ErrLost)
}

// P7.1: Mend removes a torn block, and positions a volume at its end.
func TestMend(t *testing.T) {
	v := tornVolume(t)
	must(t, v.Seek(1))
	v.Protect(true)
	want(t, "Mend of a protected volume", tapefmt.Mend(v), api.ErrProtect)
	want(t, "Len", v.Len(), 4)
	v.Protect(false)
	v.Fail(0)
	want(t, "Mend, and Trim fails", tapefmt.Mend(v), api.ErrIO)
	want(t, "Len", v.Len(), 4)
	v.Fail(1)
	want(t, "Mend, and Seek fails", tapefmt.Mend(v), api.ErrIO)
	want(t, "Len", v.Len(), 3)
	want(t, "Mend", tapefmt.Mend(v), api.OK)
	want(t, "Len", v.Len(), 3)
	want(t, "At", v.At(), 3)
	must(t, v.Seek(0))
	v.Protect(true)
	want(t, "Mend of a whole volume", tapefmt.Mend(v), api.OK)
	want(t, "At", v.At(), 3)
	v.Protect(false)
	want(t, "Write", add(t, v, 8, "eight"), 3)
	v.Fail(0)
	v.Lose()
	want(t, "Mend of a lost volume", tapefmt.Mend(v), api.ErrLost)

	v = tornVolume(t)
	must(t, v.Seek(1))
	want(t, "Mend of a torn volume", tapefmt.Mend(v), api.OK)
	want(t, "Len", v.Len(), 3)
	want(t, "At", v.At(), 3)
	wantScan(t, "mended", v, 2, tapefmt.Item{7, 0, 300})
	empty := reel.New(0)
	want(t, "Mend of an empty volume", tapefmt.Mend(empty), api.OK)
	want(t, "At", empty.At(), 0)
}
