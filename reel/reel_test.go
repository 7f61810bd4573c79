package reel_test

import (
	"fmt"
	"math"
	"slices"
	"strings"
	"testing"

	"glacier/api"
	"glacier/reel"
)

func want[T comparable](t *testing.T, what string, got, want T) {
	t.Helper()
	if got != want {
		t.Errorf("%s: %v, want %v", what, got, want)
	}
}

// must ends the test if a call that prepares it fails.
func must(t *testing.T, l ...api.Errno) {
	t.Helper()
	for i, e := range l {
		if e != api.OK {
			t.Fatalf("call %d: %d", i, e)
		}
	}
}

// blocks reads all blocks, and puts the position back. A block is its bytes in brackets, a mark "|", and a torn one "?".
func blocks(t *testing.T, v *reel.Volume) string {
	t.Helper()
	at := v.At()
	var l strings.Builder
	for n := range v.Len() {
		must(t, v.Seek(n))
		s, mark, e := v.Read()
		switch {
		case e == api.ErrSum && n == v.Len()-1 && s == "" && !mark && v.At() == n:
			l.WriteString("?")
		case e != api.OK || v.At() != n+1:
			t.Errorf("Read of block %d: %d, then at %d", n, e, v.At())
		case mark && s == "":
			l.WriteString("|")
		default:
			l.WriteString("[" + s + "]")
		}
	}
	must(t, v.Seek(at))
	return l.String()
}

func wantVolume(t *testing.T, what string, v *reel.Volume, l string, at, used int) {
	t.Helper()
	want(t, what+": blocks", blocks(t, v), l)
	want(t, what+": At", v.At(), at)
	want(t, what+": Used", v.Used(), used)
	want(t, what+": Free", v.Free(), v.Room()-used)
}

// volume returns a volume with the blocks that l says, as blocks spells them; after a "!" in it the volume is flushed.
func volume(t *testing.T, room int, l string) *reel.Volume {
	t.Helper()
	v := reel.New(room)
	for l != "" {
		switch l[0] {
		case '|':
			must(t, v.Mark())
		case '!':
			must(t, v.Flush())
		default:
			end := strings.Index(l, "]")
			must(t, v.Write(l[1:end]))
			l = l[end:]
		}
		l = l[1:]
	}
	return v
}

// tornVolume returns a volume with blocks ab, a mark, and a torn c.
func tornVolume(t *testing.T) *reel.Volume {
	t.Helper()
	v := volume(t, 100, "[ab]|![cd]")
	v.Crash([]int{0, 1})
	wantVolume(t, "torn", v, "[ab]|?", 0, 2+1+3*reel.Over)
	return v
}

// P5.1: a new volume has a capacity, no blocks and no faults.
func TestNew(t *testing.T) {
	want(t, "Over", reel.Over, 4)
	for _, room := range []int{0, 10, math.MaxInt, -1, math.MinInt} {
		v := reel.New(room)
		want(t, "Room", v.Room(), max(room, 0))
		want(t, "Label", v.Label(), "")
		want(t, "Len", v.Len(), 0)
		want(t, "Erased", v.Erased(), 0)
		want(t, "Lost", v.Lost(), false)
		wantVolume(t, "New", v, "", 0, 0)
	}
}

// P5.1, the chapter's example.
func TestExample(t *testing.T) {
	v := reel.New(100)
	must(t, v.Write("ab"), v.Flush(), v.Write("cd"))
	v.Crash([]int{0, 1})
	wantVolume(t, "Crash", v, "[ab]?", 0, 2+1+2*reel.Over)
	want(t, "Spoil of the torn c", v.Spoil(1, 0, 1), true)
	want(t, "Spoil of the lost d", v.Spoil(1, 1, 1), false)
	want(t, "Trim", v.Trim(), api.OK)
	want(t, "Write at the beginning", v.Write("ef"), api.ErrOrder)
	must(t, v.Seek(1))
	want(t, "Write at the end", v.Write("ef"), api.OK)
	wantVolume(t, "the end", v, "[ab][ef]", 2, 4+2*reel.Over)
}

// P5.1: Write and Mark append blocks, and Read returns one after the other.
func TestWriteAndRead(t *testing.T) {
	v := reel.New(1000)
	texts := []string{"one", "", "\x00\xff", strings.Repeat("x", 300), "", "|"}
	for i, s := range texts {
		want(t, "Write", v.Write(s), api.OK)
		want(t, "At", v.At(), 2*i+1)
		want(t, "Mark", v.Mark(), api.OK)
		want(t, "Len", v.Len(), 2*i+2)
		want(t, "At", v.At(), 2*i+2)
		_, _, e := v.Read()
		want(t, "Read at the end", e, api.ErrEnd)
	}
	must(t, v.Seek(0))
	for i, s := range texts {
		got, mark, e := v.Read()
		want(t, "Read", e, api.OK)
		want(t, "Read", got, s)
		want(t, "a block is no mark", mark, false)
		want(t, "At", v.At(), 2*i+1)
		got, mark, e = v.Read()
		want(t, "Read of a mark", e, api.OK)
		want(t, "a mark has no bytes", got, "")
		want(t, "a mark is a mark", mark, true)
	}
	for range 2 {
		s, mark, e := v.Read()
		want(t, "Read at the end", e, api.ErrEnd)
		want(t, "Read at the end", s, "")
		want(t, "Read at the end", mark, false)
		want(t, "At", v.At(), v.Len())
	}
	want(t, "Write after Read", v.Write("more"), api.OK)
	want(t, "Used", v.Used(), 3+2+300+1+4+13*reel.Over)
}

// P5.1: Seek goes to any block and to the end, but not further.
func TestSeek(t *testing.T) {
	v := volume(t, 100, "[a]|[b]")
	for _, n := range []int{0, 3, 1, 2, 2} {
		want(t, "Seek", v.Seek(n), api.OK)
		want(t, "At", v.At(), n)
		for _, n := range []int{-1, 4, 5, math.MaxInt, math.MinInt} {
			want(t, fmt.Sprint("Seek ", n), v.Seek(n), api.ErrArg)
		}
		want(t, "At after ErrArg", v.At(), n)
	}
	s, mark, e := v.Read()
	want(t, "Read after Seek", e, api.OK)
	want(t, "Read after Seek", s, "b")
	want(t, "Read after Seek", mark, false)
	empty := reel.New(0)
	want(t, "Seek 0 of none", empty.Seek(0), api.OK)
	want(t, "Seek 1 of none", empty.Seek(1), api.ErrArg)
}

// P5.1: Skip goes after the next mark, if there is one.
func TestSkip(t *testing.T) {
	v := volume(t, 100, "[a][b]||[c]|[d]")
	for from, to := range []int{3, 3, 3, 4, 6, 6, -1, -1} {
		must(t, v.Seek(from))
		if to < 0 {
			want(t, fmt.Sprint("Skip from ", from), v.Skip(), api.ErrEnd)
			want(t, "At", v.At(), from)
			continue
		}
		want(t, fmt.Sprint("Skip from ", from), v.Skip(), api.OK)
		want(t, "At", v.At(), to)
	}
	want(t, "Skip of an empty volume", reel.New(10).Skip(), api.ErrEnd)
	torn := tornVolume(t)
	want(t, "Skip to a torn block", torn.Skip(), api.OK)
	want(t, "At", torn.At(), 2)
	want(t, "Skip over a torn block", torn.Skip(), api.ErrEnd)
	want(t, "At", torn.At(), 2)
}

// P5.1, P5.2: a volume can be written only at its end.
func TestOrder(t *testing.T) {
	v := volume(t, 100, "[a]|[b]")
	for n := range 3 {
		must(t, v.Seek(n))
		want(t, fmt.Sprint("Write at ", n), v.Write("x"), api.ErrOrder)
		want(t, fmt.Sprint("Mark at ", n), v.Mark(), api.ErrOrder)
		wantVolume(t, "nothing is written", v, "[a]|[b]", n, 2+3*reel.Over)
	}
	must(t, v.Seek(3))
	want(t, "Write at the end", v.Write("x"), api.OK)
	must(t, v.Seek(0), v.Seek(4))
	want(t, "Mark at the end", v.Mark(), api.OK)
	wantVolume(t, "both are written", v, "[a]|[b][x]|", 5, 3+5*reel.Over)
}

// P5.1, P5.2: nothing is written after a torn block, nor is that read.
func TestTorn(t *testing.T) {
	v := tornVolume(t)
	for n := range 4 {
		must(t, v.Seek(n))
		want(t, fmt.Sprint("Write at ", n), v.Write("x"), api.ErrOrder)
		want(t, fmt.Sprint("Mark at ", n), v.Mark(), api.ErrOrder)
	}
	_, _, e := v.Read()
	want(t, "Read after a torn block", e, api.ErrEnd)
	must(t, v.Seek(2), v.Flush())
	for range 2 {
		s, mark, e := v.Read()
		want(t, "Read of a torn block", e, api.ErrSum)
		want(t, "Read of a torn block", s, "")
		want(t, "Read of a torn block", mark, false)
		want(t, "At", v.At(), 2)
	}
	v.Crash([]int{1, 1})
	wantVolume(t, "another crash", v, "[ab]|?", 0, 3+3*reel.Over)
}

// P5.1: Trim removes a torn block; the position stays, or is the end.
func TestTrim(t *testing.T) {
	for at, to := range []int{0, 1, 2, 2} {
		v := tornVolume(t)
		must(t, v.Seek(at))
		v.Protect(true)
		want(t, "Trim of a protected volume", v.Trim(), api.ErrProtect)
		wantVolume(t, "not trimmed", v, "[ab]|?", at, 3+3*reel.Over)
		v.Protect(false)
		want(t, "Trim", v.Trim(), api.OK)
		wantVolume(t, "trimmed", v, "[ab]|", to, 2+2*reel.Over)
		want(t, "Trim again", v.Trim(), api.ErrNone)
		v.Protect(true)
		want(t, "Trim of a protected volume without a torn block", v.Trim(), api.ErrNone)
		v.Protect(false)
		v.Crash([]int{1, 1})
		wantVolume(t, "a crash", v, "[ab]|", 0, 2+2*reel.Over)
		must(t, v.Seek(2))
		want(t, "Write", v.Write("ef"), api.OK)
		wantVolume(t, "written", v, "[ab]|[ef]", 3, 4+3*reel.Over)
		v.Crash(nil)
		wantVolume(t, "what was written was not flushed", v, "[ab]|", 0, 2+2*reel.Over)
	}
	v := volume(t, 10, "[ab]")
	want(t, "Trim of a whole block", v.Trim(), api.ErrNone)
	want(t, "Trim of no block", reel.New(10).Trim(), api.ErrNone)
	wantVolume(t, "not torn", v, "[ab]", 1, 2+reel.Over)
}

// P5.1, P5.2: Erase removes all blocks and sets the label; nothing else does.
func TestErase(t *testing.T) {
	v := volume(t, 20, "[ab]|![cd]")
	v.Protect(true)
	want(t, "Erase of a protected volume", v.Erase("no"), api.ErrProtect)
	want(t, "Label", v.Label(), "")
	want(t, "Erased", v.Erased(), 0)
	wantVolume(t, "not erased", v, "[ab]|[cd]", 3, 4+3*reel.Over)
	v.Protect(false)
	want(t, "Erase", v.Erase("one"), api.OK)
	want(t, "Label", v.Label(), "one")
	want(t, "Erased", v.Erased(), 1)
	wantVolume(t, "erased", v, "", 0, 0)
	want(t, "Room", v.Room(), 20)
	v.Crash([]int{5, 1})
	wantVolume(t, "a crash", v, "", 0, 0)
	want(t, "Label", v.Label(), "one")
	must(t, v.Write(strings.Repeat("x", 16)))
	v.Crash(nil)
	wantVolume(t, "none of it was flushed", v, "", 0, 0)
	want(t, "Erase of an empty volume", v.Erase(""), api.OK)
	want(t, "Label", v.Label(), "")
	want(t, "Erased", v.Erased(), 2)
	torn := tornVolume(t)
	want(t, "Erase of a torn volume", torn.Erase(strings.Repeat("l", 100)), api.OK)
	want(t, "Label", torn.Label(), strings.Repeat("l", 100))
	want(t, "Erased", torn.Erased(), 1)
	want(t, "Write", torn.Write("a"), api.OK)
	wantVolume(t, "written", torn, "[a]", 1, 1+reel.Over)
}

// P5.1: a protected volume isn't written, trimmed or erased; all else is as before.
func TestProtect(t *testing.T) {
	v := volume(t, 100, "[ab]|")
	v.Protect(true)
	v.Protect(true)
	want(t, "Write", v.Write("x"), api.ErrProtect)
	want(t, "Mark", v.Mark(), api.ErrProtect)
	want(t, "Flush", v.Flush(), api.OK)
	want(t, "Seek", v.Seek(0), api.OK)
	want(t, "Skip", v.Skip(), api.OK)
	want(t, "Spoil", v.Spoil(0, 0, 2), true)
	wantVolume(t, "protected", v, "[cb]|", 2, 2+2*reel.Over)
	v.Crash([]int{0})
	wantVolume(t, "it was flushed", v, "[cb]|", 0, 2+2*reel.Over)
	want(t, "Write after a crash", v.Write("x"), api.ErrProtect)
	v.Protect(false)
	must(t, v.Seek(2))
	want(t, "Write again", v.Write("x"), api.OK)
	v.Protect(true)
	v.Crash([]int{1})
	wantVolume(t, "a protected volume's crash", v, "[cb]|[x]", 0, 3+3*reel.Over)
}

// P5.1, P5.3: blocks occupy their bytes and Over more, and there is not more than the capacity.
func TestFull(t *testing.T) {
	for room := range 20 {
		for n := range 20 {
			v := reel.New(room)
			e := api.OK
			if n+reel.Over > room {
				e = api.ErrFull
			}
			want(t, fmt.Sprint("Write ", n, " of ", room), v.Write(strings.Repeat("x", n)), e)
			want(t, "Len and At", [2]int{v.Len(), v.At()} == [2]int{1, 1}, e == api.OK)
		}
		v := reel.New(room)
		n := 0
		for v.Mark() == api.OK {
			n++
		}
		want(t, "marks", n, room/reel.Over)
		want(t, "Mark of a full volume", v.Mark(), api.ErrFull)
		want(t, "Write of a full volume", v.Write(""), api.ErrFull)
		wantVolume(t, "full", v, strings.Repeat("|", n), n, n*reel.Over)
	}
	v := volume(t, 20, "[12345678]!")
	want(t, "Write too much", v.Write("12345"), api.ErrFull)
	want(t, "Write the rest", v.Write("1234"), api.OK)
	want(t, "Mark too much", v.Mark(), api.ErrFull)
	v.Crash([]int{0, 3})
	wantVolume(t, "torn", v, "[12345678]?", 0, 12+7)
	must(t, v.Trim(), v.Seek(1))
	want(t, "Write too much again", v.Write("12345"), api.ErrFull)
	want(t, "Write the rest again", v.Write("1234"), api.OK)
	must(t, v.Erase(""))
	want(t, "Write all", v.Write(strings.Repeat("x", 16)), api.OK)
}

// P5.1: of several errors the first one is returned: ErrProtect, ErrOrder, ErrFull.
func TestErrorsInOrder(t *testing.T) {
	v := volume(t, 6, "[a]")
	must(t, v.Seek(0))
	v.Protect(true)
	want(t, "Write", v.Write("xx"), api.ErrProtect)
	want(t, "Mark", v.Mark(), api.ErrProtect)
	v.Protect(false)
	want(t, "Write", v.Write("xx"), api.ErrOrder)
	want(t, "Mark", v.Mark(), api.ErrOrder)
	must(t, v.Seek(1))
	want(t, "Write", v.Write("xx"), api.ErrFull)
	want(t, "Mark", v.Mark(), api.ErrFull)
}

// P5.1: a crash keeps what the choice says.
func TestCrash(t *testing.T) {
	for _, c := range []struct {
		before string
		choice []int
		after  string
		used   int
	}{
		// three blocks are not durable
		{"[a]![bcd]|[efg]", nil, "[a]", 5},
		{"[a]![bcd]|[efg]", []int{}, "[a]", 5},
		{"[a]![bcd]|[efg]", []int{0}, "[a]", 5},
		{"[a]![bcd]|[efg]", []int{0, 0}, "[a]", 5},
		{"[a]![bcd]|[efg]", []int{0, 1}, "[a]?", 10},
		{"[a]![bcd]|[efg]", []int{0, 2}, "[a]?", 11},
		{"[a]![bcd]|[efg]", []int{0, 3}, "[a]", 5},
		{"[a]![bcd]|[efg]", []int{0, 4}, "[a]?", 10},
		{"[a]![bcd]|[efg]", []int{0, -1}, "[a]?", 11},
		{"[a]![bcd]|[efg]", []int{0, -3}, "[a]", 5},
		{"[a]![bcd]|[efg]", []int{1}, "[a][bcd]", 12},
		{"[a]![bcd]|[efg]", []int{1, 1}, "[a][bcd]", 12},
		{"[a]![bcd]|[efg]", []int{2}, "[a][bcd]|", 16},
		{"[a]![bcd]|[efg]", []int{2, 2}, "[a][bcd]|?", 22},
		{"[a]![bcd]|[efg]", []int{2, 0}, "[a][bcd]|", 16},
		{"[a]![bcd]|[efg]", []int{3, 1}, "[a][bcd]|[efg]", 23},
		{"[a]![bcd]|[efg]", []int{4, 1}, "[a]?", 10},
		{"[a]![bcd]|[efg]", []int{7, 1}, "[a][bcd]|[efg]", 23},
		{"[a]![bcd]|[efg]", []int{-1, 1}, "[a][bcd]|[efg]", 23},
		{"[a]![bcd]|[efg]", []int{-2, 1}, "[a][bcd]|?", 21},
		{"[a]![bcd]|[efg]", []int{-4, 1, 7}, "[a]?", 10},
		{"[a]![bcd]|[efg]", []int{math.MaxInt, math.MaxInt}, "[a][bcd]|[efg]", 23},
		{"[a]![bcd]|[efg]", []int{math.MinInt, math.MinInt}, "[a]?", 10},
		// one byte can't be torn, nor can none
		{"[b]", []int{0, 1}, "", 0},
		{"[]", []int{0, 1}, "", 0},
		{"|", []int{0, 1}, "", 0},
		{"[]|[bc]", []int{0, 1}, "", 0},
		{"[]|[bc]", []int{1, 1}, "[]", 4},
		{"[]|[bc]", []int{2, 1}, "[]|?", 13},
		{"[]|[bc]", []int{3, 1}, "[]|[bc]", 14},
		// all is durable, or nothing is there
		{"[a]|[b]!", []int{1, 1}, "[a]|[b]", 14},
		{"[a]|[b]!", nil, "[a]|[b]", 14},
		{"", []int{1, 1}, "", 0},
	} {
		v := volume(t, 100, c.before)
		choice := slices.Clone(c.choice)
		v.Crash(choice)
		what := fmt.Sprint("Crash ", c.choice, " of ", c.before)
		wantVolume(t, what, v, c.after, 0, c.used)
		if !slices.Equal(choice, c.choice) {
			t.Errorf("%s changed its argument to %v", what, choice)
		}
		v.Crash(nil)
		wantVolume(t, what+", and another one", v, c.after, 0, c.used)
	}
}

// P5.1: what is written after a crash is not durable, whatever was.
func TestCrashAfterCrash(t *testing.T) {
	v := volume(t, 100, "[a]![b][c]")
	v.Crash([]int{1})
	wantVolume(t, "one", v, "[a][b]", 0, 10)
	must(t, v.Seek(2), v.Write("de"), v.Mark())
	v.Crash([]int{0, 1})
	wantVolume(t, "two", v, "[a][b]?", 0, 15)
	must(t, v.Trim(), v.Seek(2), v.Write("fg"), v.Flush(), v.Write("h"))
	v.Crash([]int{2})
	wantVolume(t, "three", v, "[a][b][fg]", 0, 16)
}

// P5.1: Spoil changes a byte of a block, for good; marks have none.
func TestSpoil(t *testing.T) {
	v := volume(t, 100, "[abc]|[][d]")
	for _, c := range []struct {
		n, at int
		by    byte
		is    bool
	}{
		{0, 0, 1, true}, {0, 2, 0xff, true}, {0, 1, 0, true}, {3, 0, 0x20, true},
		{0, 3, 1, false}, {0, -1, 1, false}, {0, math.MaxInt, 1, false}, {0, math.MinInt, 1, false},
		{1, 0, 1, false}, {2, 0, 1, false}, {3, 1, 1, false},
		{4, 0, 1, false}, {-1, 0, 1, false}, {math.MaxInt, 0, 1, false}, {math.MinInt, 0, 1, false},
	} {
		want(t, fmt.Sprint("Spoil ", c.n, " at ", c.at), v.Spoil(c.n, c.at, c.by), c.is)
	}
	wantVolume(t, "spoilt", v, "[`b\x9c]|[][D]", 4, 4+4*reel.Over)
	want(t, "Spoil again", v.Spoil(0, 0, 1), true)
	want(t, "Spoil of an empty volume", reel.New(10).Spoil(0, 0, 1), false)
	v.Crash([]int{4})
	wantVolume(t, "spoilt for good", v, "[ab\x9c]|[][D]", 0, 4+4*reel.Over)
	torn := tornVolume(t)
	want(t, "Spoil of what was torn away", torn.Spoil(2, 1, 1), false)
	want(t, "Spoil of a torn block", torn.Spoil(2, 0, 1), true)
	wantVolume(t, "torn still", torn, "[ab]|?", 0, 3+3*reel.Over)
}

// calls are those that try their luck, with arguments that are otherwise in order at the end of a volume whose last block is not torn; Trim is there, too, as one that then finds nothing to do.
var calls = []struct {
	name string
	call func(v *reel.Volume) api.Errno
	e    api.Errno
}{
	{"Write", func(v *reel.Volume) api.Errno { return v.Write("x") }, api.OK},
	{"Mark", func(v *reel.Volume) api.Errno { return v.Mark() }, api.OK},
	{"Flush", func(v *reel.Volume) api.Errno { return v.Flush() }, api.OK},
	{"Read", read, api.ErrEnd},
	{"Seek", func(v *reel.Volume) api.Errno { return v.Seek(0) }, api.OK},
	{"Seek too far", func(v *reel.Volume) api.Errno { return v.Seek(9) }, api.ErrArg},
	{"Skip", func(v *reel.Volume) api.Errno { return v.Skip() }, api.ErrEnd},
	{"Trim", func(v *reel.Volume) api.Errno { return v.Trim() }, api.ErrNone},
	{"Erase", func(v *reel.Volume) api.Errno { return v.Erase("new") }, api.OK},
	{"Write of too much", func(v *reel.Volume) api.Errno { return v.Write(strings.Repeat("x", 99)) }, api.ErrFull},
}

// read is -1 if there are results beside an error.
func read(v *reel.Volume) api.Errno {
	s, mark, e := v.Read()
	if e != api.OK && (s != "" || mark) {
		return -1
	}
	return e
}

// P5.1: a call that fails changes nothing, and the one after it is as it would have been.
func TestFail(t *testing.T) {
	for _, c := range calls {
		v := volume(t, 100, "[ab]|![cd]")
		v.Fail(0)
		want(t, c.name, c.call(v), api.ErrIO)
		wantVolume(t, c.name, v, "[ab]|[cd]", 3, 4+3*reel.Over)
		want(t, c.name+": Label", v.Label(), "")
		want(t, c.name+": Erased", v.Erased(), 0)
		want(t, c.name+" again", c.call(v), c.e)

		v = volume(t, 100, "[ab]|![cd]")
		v.Fail(1)
		want(t, c.name, c.call(v), c.e)
		want(t, c.name+" counts", v.Flush(), api.ErrIO)

		v = volume(t, 100, "[ab]|![cd]")
		v.Fail(0)
		v.Fail(-1)
		want(t, c.name+", disarmed", c.call(v), c.e)
	}
	v := volume(t, 100, "[ab]|![cd]")
	v.Fail(0)
	want(t, "Flush", v.Flush(), api.ErrIO)
	v.Crash(nil)
	wantVolume(t, "a Flush that failed", v, "[ab]|", 0, 2+2*reel.Over)
	torn := tornVolume(t)
	torn.Fail(0)
	want(t, "Trim", torn.Trim(), api.ErrIO)
	wantVolume(t, "a Trim that failed", torn, "[ab]|?", 0, 3+3*reel.Over)
	must(t, torn.Seek(2))
	torn.Fail(0)
	want(t, "Read of a torn block", read(torn), api.ErrIO)
	want(t, "Read of a torn block again", read(torn), api.ErrSum)
}

// P5.1: luck comes before all other errors.
func TestLuckIsFirst(t *testing.T) {
	for _, c := range calls {
		v := volume(t, 15, "[ab]|![c]")
		must(t, v.Seek(1))
		v.Protect(true)
		v.Fail(0)
		want(t, c.name, c.call(v), api.ErrIO)
		v.Lose()
		want(t, c.name, c.call(v), api.ErrLost)
		want(t, c.name+" again", c.call(v), api.ErrLost)
		want(t, "Lost", v.Lost(), true)
		want(t, "Len", v.Len(), 3)
		want(t, "At", v.At(), 1)
		want(t, "Used", v.Used(), 15)
		want(t, "Label", v.Label(), "")
		want(t, "Erased", v.Erased(), 0)
	}
}

// P5.1: the other calls don't try their luck, and work on a lost volume, too.
func TestCallsWithoutLuck(t *testing.T) {
	v := volume(t, 100, "[ab]|![cd]")
	v.Fail(0)
	v.Protect(true)
	v.Protect(false)
	want(t, "Len", v.Len(), 3)
	want(t, "At", v.At(), 3)
	want(t, "Label", v.Label(), "")
	want(t, "Erased", v.Erased(), 0)
	want(t, "Spoil", v.Spoil(2, 1, 1), true)
	v.Crash([]int{0, 1})
	want(t, "Len", v.Len(), 3)
	want(t, "At", v.At(), 0)
	want(t, "the volume is still armed", v.Try(), api.ErrIO)
	wantVolume(t, "crashed", v, "[ab]|?", 0, 3+3*reel.Over)

	v = volume(t, 100, "[ab]|![cd]")
	v.Lose()
	v.Crash(nil)
	want(t, "a lost volume's Len", v.Len(), 2)
	want(t, "a lost volume's Used", v.Used(), 10)
	want(t, "a lost volume's Spoil", v.Spoil(0, 1, 1), true)
	want(t, "Lost", v.Lost(), true)
}

// P5.1, P5.3: the meter and the luck are the volume's own; bytes that are taken of the meter are not free for blocks.
func TestMeterIsPromoted(t *testing.T) {
	v, other := reel.New(20), reel.New(20)
	must(t, v.Write("ab"), v.Take(8))
	want(t, "Used", v.Used(), 14)
	want(t, "Fits 6", v.Fits(6), true)
	want(t, "Fits 7", v.Fits(7), false)
	want(t, "Write too much", v.Write("abc"), api.ErrFull)
	want(t, "Write the rest", v.Write("ab"), api.OK)
	want(t, "Take too much", v.Take(1), api.ErrFull)
	want(t, "the meter", v.Meter.Used(), 20)
	must(t, v.Give(8))
	wantVolume(t, "given", v, "[ab][ab]", 2, 12)
	must(t, v.Give(10))
	v.Crash([]int{1})
	wantVolume(t, "less is used than is removed", v, "[ab]", 0, 0)
	must(t, v.Erase(""))
	wantVolume(t, "erased", v, "", 0, 0)
	v.Fail(0)
	want(t, "Try", v.Luck.Try(), api.ErrIO)
	v.Lose()
	want(t, "another volume", other.Lost(), false)
	wantVolume(t, "another volume", other, "", 0, 0)
}
