package library_test

import (
	"fmt"
	"math"
	"slices"
	"strings"
	"testing"

	"glacier/api"
	"glacier/library"
	"glacier/reel"
	"glacier/seal"
	"glacier/tapefmt"
)

func want[T comparable](t *testing.T, what string, got, want T) {
	t.Helper()
	if got != want {
		t.Errorf("%s: %#v, want %#v", what, got, want)
	}
}

// must ends the test if a call that prepares it fails.
func must(t *testing.T, l ...api.Errno) {
	t.Helper()
	for i, e := range l {
		if e != api.OK {
			t.Fatalf("call %d: %d", i, e)
		}
	}
}

// rooms returns n capacities of 10000 bytes.
func rooms(n int) []int {
	return slices.Repeat([]int{10000}, n)
}

// mounted returns a library with n volumes, of which the first ones are mounted, in order.
func mounted(t *testing.T, n, drives int) *library.Library {
	t.Helper()
	l := library.New(rooms(n), drives)
	for vol := range min(n, drives) {
		wantMount(t, "mounted", l, vol, vol, api.OK)
	}
	return l
}

func wantMount(t *testing.T, what string, l *library.Library, vol, drive int, e api.Errno) {
	t.Helper()
	got, err := l.Mount(vol)
	want(t, what+": error", err, e)
	want(t, what+": drive", got, drive)
}

// in tells which drive each volume is in.
func in(l *library.Library) string {
	var s []string
	for vol := range l.Len() {
		s = append(s, fmt.Sprint(l.In(vol)))
	}
	return strings.Join(s, " ")
}

// P8.1: a new library has volumes of these capacities, all in their slots, and up to three drives.
func TestNew(t *testing.T) {
	sizes := []int{100, 0, -1, math.MaxInt, 7}
	before := slices.Clone(sizes)
	l := library.New(sizes, 2)
	want(t, "Len", l.Len(), 5)
	sizes[0] = 1
	for vol, room := range before {
		v := l.Volume(vol)
		want(t, "Room", v.Room(), max(room, 0))
		want(t, "Label", v.Label(), "")
		want(t, "Len of the volume", v.Len(), 0)
	}
	want(t, "Moves", l.Moves(), 0)
	want(t, "In", in(l), "-1 -1 -1 -1 -1")
	want(t, "In of none", l.In(-1), -1)
	for drives, n := range map[int]int{0: 0, 1: 1, 2: 2, 3: 3, 4: 3, 100: 3, -1: 0, math.MaxInt: 3, math.MinInt: 0} {
		want(t, fmt.Sprint("Working of ", drives), library.New(rooms(1), drives).Working(), n)
	}
	many := library.New(rooms(20), 3)
	want(t, "Len of many", many.Len(), 20)
	wantMount(t, "the last one", many, 19, 0, api.OK)
	for _, none := range [][]int{nil, {}} {
		l := library.New(none, 3)
		want(t, "Len of none", l.Len(), 0)
		wantMount(t, "none", l, 0, -1, api.ErrArg)
		l.Crash([]int{1, 2})
	}
}

// P8.1: Volume is the volume itself, wherever it is.
func TestVolume(t *testing.T) {
	l := library.New(rooms(2), 1)
	v := l.Volume(1)
	must(t, l.Erase(1, "V1"))
	want(t, "Label", v.Label(), "V1")
	want(t, "the other one's Label", l.Volume(0).Label(), "")
	want(t, "Volume", l.Volume(1), v)
	for _, vol := range []int{-1, 2, math.MinInt, math.MaxInt} {
		want(t, "no Volume", l.Volume(vol), nil)
		want(t, "In", l.In(vol), -1)
	}
}

// P8.1: the chapter's example.
func TestExample(t *testing.T) {
	l := library.New(rooms(2), 1)
	wantMount(t, "Mount 0", l, 0, 0, api.OK)
	wantMount(t, "Mount 1", l, 1, 0, api.OK)
	want(t, "Moves", l.Moves(), 2)
	must(t, l.Hold(1))
	wantMount(t, "Mount 0", l, 0, -1, api.ErrBusy)
	want(t, "In", in(l), "-1 0")
	must(t, l.Release(1))
	wantMount(t, "Mount 0", l, 0, 0, api.OK)
	want(t, "Moves", l.Moves(), 3)
}

// P8.1: a volume goes into an empty drive, the lowest one, and otherwise into the one whose volume was least recently mounted.
func TestMount(t *testing.T) {
	l := library.New(rooms(6), 3)
	for i, c := range []struct{ vol, drive, moves int }{
		{5, 0, 1}, {5, 0, 1}, {0, 1, 2}, {1, 2, 3}, // the empty ones
		{2, 0, 4},            // 5 was the first one, though it was mounted twice
		{0, 1, 4}, {3, 2, 5}, // 0 counts again, so that 1 is the next one
		{2, 0, 5}, {3, 2, 5}, {5, 1, 6},
		{0, 0, 7}, {3, 2, 7}, {2, 1, 8}, {1, 0, 9},
	} {
		what := fmt.Sprint("Mount ", i)
		wantMount(t, what, l, c.vol, c.drive, api.OK)
		want(t, what+": In", l.In(c.vol), c.drive)
		want(t, what+": Moves", l.Moves(), c.moves)
	}
	want(t, "In", in(l), "-1 0 1 2 -1 -1")
}

// P8.1: each call that mounts a volume counts as a Mount of it, also if the operation on it fails then.
func TestMountsCount(t *testing.T) {
	for name, call := range map[string]func(l *library.Library) api.Errno{
		"Mount": func(l *library.Library) api.Errno { _, e := l.Mount(0); return e },
		"Hold": func(l *library.Library) api.Errno {
			e := l.Hold(0)
			must(t, l.Release(0))
			return e
		},
		"Write":        func(l *library.Library) api.Errno { _, e := l.Write(0, 7, "x"); return e },
		"Write of big": func(l *library.Library) api.Errno { _, e := l.Write(0, 7, strings.Repeat("x", 4001)); return e },
		"Read":         func(l *library.Library) api.Errno { _, e := l.Read(0, 99, 7); return e },
		"Erase":        func(l *library.Library) api.Errno { return l.Erase(0, "V") },
		"Scan":         func(l *library.Library) api.Errno { _, e := l.Scan(0); return e },
	} {
		e := map[string]api.Errno{"Write of big": api.ErrBig, "Read": api.ErrArg}[name]
		l := mounted(t, 3, 2)
		want(t, name, call(l), e)
		wantMount(t, "after "+name, l, 2, 1, api.OK)
		l = library.New(rooms(2), 1)
		want(t, name+" of a volume in its slot", call(l), e)
		want(t, name+": In", l.In(0), 0)
		want(t, name+": Moves", l.Moves(), 1)
	}
	l := mounted(t, 3, 2)
	must(t, l.Hold(1), l.Hold(0), l.Release(1), l.Release(0))
	wantMount(t, "Release does not count", l, 2, 1, api.OK)
	l = mounted(t, 3, 2)
	l.In(0)
	l.Volume(0).Seek(0)
	wantMount(t, "nothing else counts", l, 2, 0, api.OK)
}

// P8.1: what mounts a volume returns ErrArg, ErrLost or ErrBusy, the first of them that applies, and then does nothing.
func TestMountErrors(t *testing.T) {
	wantAll := func(what string, l *library.Library, vol int, e api.Errno) {
		t.Helper()
		before, moves := in(l), l.Moves()
		wantMount(t, what, l, vol, -1, e)
		want(t, what+": Hold", l.Hold(vol), e)
		from, err := l.Write(vol, 7, strings.Repeat("x", 4001))
		want(t, what+": Write", err, e)
		want(t, what+": Write", from, 0)
		s, err := l.Read(vol, -1, 7)
		want(t, what+": Read", err, e)
		want(t, what+": Read", s, "")
		want(t, what+": Erase", l.Erase(vol, "new"), e)
		items, err := l.Scan(vol)
		want(t, what+": Scan", err, e)
		want(t, what+": Scan", len(items), 0)
		want(t, what+": In", in(l), before)
		want(t, what+": Moves", l.Moves(), moves)
	}
	l := mounted(t, 3, 1)
	for _, vol := range []int{-1, 3, math.MinInt, math.MaxInt} {
		wantAll("no volume", l, vol, api.ErrArg)
	}
	l.Volume(1).Lose()
	wantAll("lost", l, 1, api.ErrLost)
	must(t, l.Hold(0))
	wantAll("busy", l, 2, api.ErrBusy)
	want(t, "not erased", l.Volume(2).Erased(), 0)
	wantAll("lost, and busy", l, 1, api.ErrLost)
	wantAll("no volume, and busy", l, 3, api.ErrArg)
	l.Volume(0).Lose()
	wantAll("lost in its drive", l, 0, api.ErrLost)
	want(t, "it stays there", l.In(0), 0)
	want(t, "it is still held once", l.Release(0), api.OK)
	want(t, "and not twice", l.Release(0), api.ErrNone)
	wantMount(t, "another one", l, 2, 0, api.OK)
	wantAll("without drives", library.New(rooms(1), 0), 0, api.ErrBusy)
}

// P8.1: a Mount that returns an error does not count.
func TestMountThatFails(t *testing.T) {
	l := mounted(t, 3, 2)
	l.Volume(0).Lose()
	wantMount(t, "lost", l, 0, -1, api.ErrLost)
	wantMount(t, "another one", l, 2, 0, api.OK)
}

// P8.1: a volume may be held several times, and stays in its drive until it is released as often.
func TestHold(t *testing.T) {
	l := mounted(t, 4, 2)
	want(t, "Release of one that isn't held", l.Release(0), api.ErrNone)
	want(t, "Release of one in its slot", l.Release(2), api.ErrNone)
	for _, vol := range []int{-1, 4, math.MinInt, math.MaxInt} {
		want(t, "Release of none", l.Release(vol), api.ErrNone)
	}
	must(t, l.Hold(0), l.Hold(0))
	for range 3 {
		wantMount(t, "into the other drive", l, 2, 1, api.OK)
		wantMount(t, "into the other drive", l, 3, 1, api.OK)
	}
	must(t, l.Hold(3))
	want(t, "Hold, and all are held", l.Hold(2), api.ErrBusy)
	wantMount(t, "all are held", l, 1, -1, api.ErrBusy)
	wantMount(t, "a held volume", l, 0, 0, api.OK)
	must(t, l.Release(0))
	wantMount(t, "all are held still", l, 1, -1, api.ErrBusy)
	must(t, l.Release(0))
	want(t, "Release again", l.Release(0), api.ErrNone)
	wantMount(t, "one isn't held", l, 1, 0, api.OK)
	want(t, "Release of one that went to its slot", l.Release(0), api.ErrNone)
	must(t, l.Hold(2))
	want(t, "In", in(l), "-1 -1 0 1")
	want(t, "Hold of the fourth", l.Hold(0), api.ErrBusy)
	want(t, "Release of one that was not held", l.Release(0), api.ErrNone)
}

// P8.1: Break empties a drive, broken or not, as if it had never been used; nothing goes into a broken one.
func TestBreak(t *testing.T) {
	l := mounted(t, 5, 3)
	must(t, l.Hold(1))
	l.Break(1, true)
	want(t, "In", in(l), "0 -1 2 -1 -1")
	want(t, "Working", l.Working(), 2)
	want(t, "it isn't held in its slot", l.Release(1), api.ErrNone)
	wantMount(t, "into the oldest one", l, 3, 0, api.OK)
	l.Break(1, true)
	want(t, "Working", l.Working(), 2)
	l.Break(1, false)
	want(t, "Working", l.Working(), 3)
	wantMount(t, "into the mended one", l, 1, 1, api.OK)
	want(t, "it isn't held any more", l.Release(1), api.ErrNone)
	l.Break(2, false)
	l.Break(0, false)
	want(t, "In", in(l), "-1 1 -1 -1 -1")
	want(t, "Working", l.Working(), 3)
	wantMount(t, "into the lowest empty one", l, 4, 0, api.OK)
	want(t, "Moves", l.Moves(), 6)
	for _, n := range []int{-1, 3, math.MinInt, math.MaxInt} {
		l.Break(n, true)
		l.Break(n, false)
	}
	want(t, "In", in(l), "-1 1 -1 -1 0")
	want(t, "Working", l.Working(), 3)
	for n := range 3 {
		l.Break(n, true)
	}
	want(t, "Working", l.Working(), 0)
	wantMount(t, "all are broken", l, 4, -1, api.ErrBusy)
	l.Break(2, false)
	wantMount(t, "into the one that works", l, 4, 2, api.OK)
	wantMount(t, "into the one that works", l, 0, 2, api.OK)
}

// P8.1: the volume's own operations return what tapefmt and reel return.
func TestOperations(t *testing.T) {
	l := library.New([]int{2000, 100}, 1)
	must(t, l.Erase(0, "V0.1"), l.Erase(1, "V1.1"))
	want(t, "Label", l.Volume(0).Label(), "V0.1")
	want(t, "Erased", l.Volume(0).Erased(), 1)
	data := strings.Repeat("0123456789", 25)
	for _, first := range []int{0, 3} {
		from, e := l.Write(0, 7, data)
		want(t, "Write", e, api.OK)
		want(t, "Write", from, first)
	}
	s, e := l.Read(0, 3, 7)
	want(t, "Read", e, api.OK)
	want(t, "Read", s, data)
	items, e := l.Scan(0)
	want(t, "Scan", e, api.OK)
	want(t, "Scan", slices.Equal(items, []tapefmt.Item{{Blob: 7, From: 0, Size: 250}, {Blob: 7, From: 3, Size: 250}}), true)
	must(t, l.Volume(0).Seek(3))
	text, _, _ := l.Volume(0).Read()
	want(t, "piece", text, tapefmt.Spell(tapefmt.Piece{Label: "V0.1", Block: 3, Blob: 7, Parts: 2, Size: 250, Sum: seal.Sum(data), Data: data[:200]}))
	want(t, "Moves", l.Moves(), 3)

	wantRead := func(what string, vol, from int, blob uint64, e api.Errno) {
		t.Helper()
		s, err := l.Read(vol, from, blob)
		want(t, what, err, e)
		want(t, what, s, "")
	}
	wantWrite := func(what string, vol int, data string, e api.Errno) {
		t.Helper()
		from, err := l.Write(vol, 8, data)
		want(t, what, err, e)
		want(t, what, from, 0)
	}
	wantRead("Read of another blob", 0, 3, 8, api.ErrForm)
	wantRead("Read of a mark", 0, 2, 7, api.ErrForm)
	wantRead("Read at the end", 0, 6, 7, api.ErrEnd)
	wantRead("Read from nowhere", 0, 7, 7, api.ErrArg)
	wantRead("Read of an empty volume", 1, 0, 7, api.ErrEnd)
	wantWrite("Write of too much", 1, data, api.ErrFull)
	wantWrite("Write of a blob that is too big", 1, strings.Repeat("x", 4001), api.ErrBig)
	l.Volume(1).Protect(true)
	wantWrite("Write to a protected volume", 1, "x", api.ErrProtect)
	want(t, "Erase of a protected volume", l.Erase(1, "V1.2"), api.ErrProtect)
	want(t, "Label", l.Volume(1).Label(), "V1.1")

	l.Volume(0).Fail(2)
	wantRead("Read that fails", 0, 3, 7, api.ErrIO)
	l.Volume(0).Fail(2)
	wantWrite("Write that fails", 0, data, api.ErrIO)
	l.Volume(0).Fail(0)
	want(t, "Erase that fails", l.Erase(0, "V0.2"), api.ErrIO)
	l.Volume(0).Fail(5)
	items, e = l.Scan(0)
	want(t, "Scan that fails", e, api.ErrIO)
	want(t, "Scan that fails", len(items), 0)
	l.Volume(0).Fail(0)
	wantMount(t, "a Mount does not try the volume", l, 0, 0, api.OK)
	want(t, "it is still armed", l.Volume(0).Try(), api.ErrIO)
}

// P8.1: any label is set; the blobs of a volume whose label is too long can't be read.
func TestLongLabel(t *testing.T) {
	l := library.New(rooms(1), 1)
	long := strings.Repeat("x", api.MaxName+1)
	must(t, l.Erase(0, long))
	want(t, "Label", l.Volume(0).Label(), long)
	_, e := l.Write(0, 7, "seven")
	must(t, e)
	_, e = l.Read(0, 0, 7)
	want(t, "Read", e, api.ErrBig)
}

// text returns the bytes of a volume's blocks in brackets, a mark as "|", and a torn block as "?".
func text(t *testing.T, v *reel.Volume) string {
	t.Helper()
	s := ""
	for n := range v.Len() {
		must(t, v.Seek(n))
		b, mark, e := v.Read()
		switch {
		case e != api.OK:
			s += "?"
		case mark:
			s += "|"
		default:
			s += "[" + b + "]"
		}
	}
	return s
}

// P8.1: a crash empties all drives, and each volume crashes by its own two choices and is trimmed.
func TestCrash(t *testing.T) {
	for _, c := range []struct {
		choice []int
		after  [3]string
	}{
		{nil, [3]string{"[a]", "[a]", "[a]"}},
		{[]int{1, 1}, [3]string{"[a][bc]", "[a]", "[a]"}},
		{[]int{0, 1}, [3]string{"[a]", "[a]", "[a]"}},
		{[]int{2}, [3]string{"[a][bc]|", "[a]", "[a]"}},
		{[]int{0, 0, 1}, [3]string{"[a]", "[a][bc]", "[a]"}},
		{[]int{0, 0, 0, 1, 2}, [3]string{"[a]", "[a]", "[a][bc]|"}},
		{[]int{3, 1, 5, 9, 4, 1, 2, 2}, [3]string{"[a][bc]|[d]", "[a][bc]", "[a]"}},
		{[]int{-1, 0, -2, 0, -3}, [3]string{"[a][bc]|[d]", "[a][bc]|", "[a][bc]"}},
	} {
		l := mounted(t, 3, 3)
		for vol := range 3 {
			v := l.Volume(vol)
			must(t, v.Write("a"), v.Flush(), v.Write("bc"), v.Mark(), v.Write("d"))
		}
		choice := slices.Clone(c.choice)
		l.Crash(choice)
		what := fmt.Sprint("Crash ", c.choice)
		want(t, what+" changes its argument", slices.Equal(choice, c.choice), true)
		for vol := range 3 {
			want(t, what, text(t, l.Volume(vol)), c.after[vol])
		}
		want(t, what+": In", in(l), "-1 -1 -1")
		want(t, what+": Moves", l.Moves(), 3)
	}
}

// P8.1: after a crash the drives are as if they had never been used, but broken ones are broken, and nobody holds a volume.
func TestCrashOfDrives(t *testing.T) {
	l := mounted(t, 4, 3)
	must(t, l.Hold(0), l.Hold(1), l.Hold(2))
	l.Break(1, true)
	l.Crash(nil)
	want(t, "In", in(l), "-1 -1 -1 -1")
	want(t, "Working", l.Working(), 2)
	want(t, "Release", l.Release(0), api.ErrNone)
	wantMount(t, "Mount", l, 3, 0, api.OK)
	wantMount(t, "Mount", l, 2, 2, api.OK)
	wantMount(t, "Mount", l, 0, 0, api.OK)
	want(t, "Release of what was held", l.Release(2), api.ErrNone)
	want(t, "Moves", l.Moves(), 6)
	l.Break(1, false)
	wantMount(t, "Mount", l, 1, 1, api.OK)
}

// P8.1: the Trim of a crash tries the volume's luck, and may fail.
func TestCrashThatFails(t *testing.T) {
	l := library.New(rooms(4), 1)
	for vol := range 4 {
		must(t, l.Volume(vol).Write("abc"))
	}
	l.Volume(0).Fail(0)
	l.Volume(1).Protect(true)
	l.Volume(2).Lose()
	l.Volume(3).Fail(1)
	l.Crash([]int{0, 1, 0, 2, 0, 1, 0, 1})
	want(t, "armed", text(t, l.Volume(0)), "?")
	want(t, "protected", text(t, l.Volume(1)), "?")
	want(t, "lost", l.Volume(2).Len(), 1)
	want(t, "armed with one more", l.Volume(3).Len(), 0)
	want(t, "it is still armed", l.Volume(3).Try(), api.ErrIO)
	l.Crash(nil)
	want(t, "armed no more", text(t, l.Volume(0)), "")
}
