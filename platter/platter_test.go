package platter_test

import (
	"fmt"
	"math"
	"slices"
	"strings"
	"testing"

	"glacier/api"
	"glacier/platter"
)

func want[T comparable](t *testing.T, what string, got, want T) {
	t.Helper()
	if got != want {
		t.Errorf("%s: %v, want %v", what, got, want)
	}
}

// must ends the test if a call that prepares it fails.
func must(t *testing.T, l ...api.Errno) {
	t.Helper()
	for i, e := range l {
		if e != api.OK {
			t.Fatalf("call %d: %d", i, e)
		}
	}
}

// wantFiles compares all files that exist currently, each of which is given as its name, "=" and its contents.
func wantFiles(t *testing.T, what string, d *platter.Disk, files ...string) {
	t.Helper()
	names, e := d.Names()
	if e != api.OK {
		t.Fatalf("%s: Names: %d", what, e)
	}
	var l []string
	for _, name := range names {
		s, e := d.Read(name)
		if e != api.OK {
			t.Errorf("%s: Read %s: %d", what, name, e)
		}
		l = append(l, name+"="+s)
	}
	if !slices.Equal(l, files) {
		t.Errorf("%s: %q, want %q", what, l, files)
	}
}

func wantUsed(t *testing.T, what string, d *platter.Disk, used int) {
	t.Helper()
	if d.Used() != used || d.Free() != d.Room()-used {
		t.Errorf("%s: Used %d, Free %d of %d, want %d used", what, d.Used(), d.Free(), d.Room(), used)
	}
}

// P4.1: a new disk has a capacity, no files and no faults.
func TestNew(t *testing.T) {
	for _, room := range []int{0, 10, math.MaxInt, -1, math.MinInt} {
		d := platter.New(room)
		want(t, "Room", d.Room(), max(room, 0))
		wantUsed(t, "New", d, 0)
		wantFiles(t, "New", d)
		want(t, "Safe", d.Safe(), true)
		want(t, "Lost", d.Lost(), false)
	}
}

// P4.1, the chapter's example.
func TestExample(t *testing.T) {
	d := platter.New(100)
	must(t, d.Append("a", "xy"), d.Sync(), d.Append("a", "z1"))
	d.Crash([]int{1})
	wantFiles(t, "Crash 1", d, "a=xyz")
	must(t, d.Write("a", "q"))
	d.Crash([]int{2})
	wantFiles(t, "Crash 2", d, "a=xyz")
}

// P4.1: Write replaces what a file has, and Append adds to it.
func TestWriteAndAppend(t *testing.T) {
	d := platter.New(100)
	must(t, d.Write("b", "one"), d.Append("a", "two"), d.Write("c", ""), d.Append("d", ""))
	wantFiles(t, "new files", d, "a=two", "b=one", "c=", "d=")
	must(t, d.Append("b", "+1"), d.Append("a", ""), d.Write("c", "\x00\xff"), d.Append("d", "d"))
	wantFiles(t, "grown files", d, "a=two", "b=one+1", "c=\x00\xff", "d=d")
	must(t, d.Write("b", "x"), d.Write("a", ""), d.Append("c", "\x80"))
	wantFiles(t, "rewritten files", d, "a=", "b=x", "c=\x00\xff\x80", "d=d")
	must(t, d.Append("a", "1"), d.Append("b", "2"))
	wantFiles(t, "grown again", d, "a=1", "b=x2", "c=\x00\xff\x80", "d=d")
	wantUsed(t, "the end", d, 7)
}

// P4.1: a file needs a name.
func TestEmptyName(t *testing.T) {
	d := platter.New(3)
	want(t, "Write", d.Write("", "a"), api.ErrArg)
	want(t, "Append", d.Append("", "a"), api.ErrArg)
	want(t, "Write without bytes", d.Write("", ""), api.ErrArg)
	want(t, "Write of too much", d.Write("", "abcd"), api.ErrArg)
	want(t, "Append of too much", d.Append("", "abcd"), api.ErrArg)
	want(t, "Remove", d.Remove(""), api.ErrNone)
	want(t, "Sync", d.Sync(""), api.OK)
	s, e := d.Read("")
	want(t, "Read", s, "")
	want(t, "Read", e, api.ErrNone)
	want(t, "Spoil", d.Spoil("", 0, 1), false)
	wantFiles(t, "no file", d)
	wantUsed(t, "no file", d, 0)
}

// P4.1: Remove removes all files that it names, or none.
func TestRemove(t *testing.T) {
	d := platter.New(100)
	want(t, "Remove of nothing", d.Remove(), api.OK)
	want(t, "Remove of no file", d.Remove("a"), api.ErrNone)
	must(t, d.Write("a", "1"), d.Write("b", "2"), d.Write("c", "3"), d.Sync("a"))
	want(t, "Remove with a strange name last", d.Remove("a", "b", "x"), api.ErrNone)
	want(t, "Remove with a strange name first", d.Remove("x", "a", "b"), api.ErrNone)
	wantFiles(t, "none is removed", d, "a=1", "b=2", "c=3")
	want(t, "Remove", d.Remove("b", "a", "b", "b"), api.OK)
	wantFiles(t, "two are removed", d, "c=3")
	want(t, "Remove again", d.Remove("a"), api.ErrNone)
	want(t, "Remove again, with another one", d.Remove("c", "b"), api.ErrNone)
	want(t, "Remove of nothing", d.Remove([]string{}...), api.OK)
	wantFiles(t, "one is left", d, "c=3")
	want(t, "Safe", d.Safe(), false)
	must(t, d.Append("a", "4"))
	wantFiles(t, "a again", d, "a=4", "c=3")
	must(t, d.Remove("a", "c"))
	wantFiles(t, "nothing is left", d)
	d.Crash(nil)
	wantFiles(t, "what was synced", d, "a=1")
}

// P4.1: Read and Names tell the current state.
func TestReadAndNames(t *testing.T) {
	d := platter.New(100)
	s, e := d.Read("a")
	want(t, "Read of no file", s, "")
	want(t, "Read of no file", e, api.ErrNone)
	must(t, d.Write("a", "1"), d.Sync(), d.Remove("a"))
	s, e = d.Read("a")
	want(t, "Read of a removed file", s, "")
	want(t, "Read of a removed file", e, api.ErrNone)
	names := []string{"b", "", "a", "B", "ab", "a\x00", "\xff", "é", "~", "a/b", " "}
	for _, name := range names {
		if name != "" {
			must(t, d.Append(name, "x"))
		}
	}
	l, e := d.Names()
	want(t, "Names", e, api.OK)
	sorted := []string{" ", "B", "a", "a\x00", "a/b", "ab", "b", "~", "é", "\xff"}
	if !slices.Equal(l, sorted) {
		t.Errorf("Names: %q, want %q", l, sorted)
	}
	l[0] = "changed"
	l, _ = d.Names()
	want(t, "Names after a result was changed", l[0], " ")
}

// P4.1: Sync makes the files durable that it names, or all of them.
func TestSync(t *testing.T) {
	d := platter.New(100)
	want(t, "Sync of no files", d.Sync(), api.OK)
	want(t, "Sync of a strange name", d.Sync("x"), api.OK)
	must(t, d.Write("a", "1"), d.Write("b", "2"), d.Write("c", "3"), d.Write("d", ""), d.Write("e", ""))
	want(t, "Sync of some", d.Sync("b", "x", "b", "d"), api.OK)
	want(t, "Safe", d.Safe(), false)
	d.Crash(nil)
	wantFiles(t, "only some were synced", d, "b=2", "d=")
	want(t, "Safe", d.Safe(), true)
	must(t, d.Remove("b"), d.Write("d", "4"), d.Write("f", "6"))
	want(t, "Sync of a removed file", d.Sync("b"), api.OK)
	d.Crash(nil)
	wantFiles(t, "b's removal was synced", d, "d=")
	must(t, d.Remove("d"), d.Write("f", "6"), d.Write("g", ""))
	want(t, "Sync of all", d.Sync([]string{}...), api.OK)
	want(t, "Safe", d.Safe(), true)
	d.Crash([]int{1, 1, 1, 1})
	wantFiles(t, "all was synced", d, "f=6", "g=")
}

// P4.1: Safe compares each file's current state with its durable one.
func TestSafe(t *testing.T) {
	d := platter.New(100)
	steps := []struct {
		what string
		call func() api.Errno
		safe bool
	}{
		{"a new file", func() api.Errno { return d.Write("a", "") }, false},
		{"its removal", func() api.Errno { return d.Remove("a") }, true},
		{"a new file again", func() api.Errno { return d.Append("a", "xy") }, false},
		{"another file is synced", func() api.Errno { return d.Sync("b") }, false},
		{"it is synced", func() api.Errno { return d.Sync("a") }, true},
		{"nothing is added", func() api.Errno { return d.Append("a", "") }, true},
		{"something is added", func() api.Errno { return d.Append("a", "z") }, false},
		{"the same is written", func() api.Errno { return d.Write("a", "xy") }, true},
		{"something else is written", func() api.Errno { return d.Write("a", "xz") }, false},
		{"nothing is written", func() api.Errno { return d.Write("a", "") }, false},
		{"the same is added", func() api.Errno { return d.Append("a", "xy") }, true},
		{"it is removed", func() api.Errno { return d.Remove("a") }, false},
		{"it is written again", func() api.Errno { return d.Write("a", "xy") }, true},
		{"an empty file", func() api.Errno { return d.Write("c", "") }, false},
		{"it is synced, too", func() api.Errno { return d.Sync("c") }, true},
		{"the empty file is removed", func() api.Errno { return d.Remove("c") }, false},
		{"all is synced", func() api.Errno { return d.Sync() }, true},
	}
	for _, s := range steps {
		want(t, s.what, s.call(), api.OK)
		want(t, s.what, d.Safe(), s.safe)
	}
}

// P4.1: a crash keeps of each file what the choice says.
func TestCrash(t *testing.T) {
	same := func(*platter.Disk) {}
	write := func(s string) func(*platter.Disk) { return func(d *platter.Disk) { d.Write("a", s) } }
	remove := func(d *platter.Disk) { d.Remove("a") }
	for _, c := range []struct {
		sure, now func(*platter.Disk)
		choice    int
		want      string
	}{
		// longer ones that begin with the durable ones: c modulo the number of additional bytes and one
		{write("xy"), write("xyz12"), 0, "a=xy"},
		{write("xy"), write("xyz12"), 1, "a=xyz"},
		{write("xy"), write("xyz12"), 2, "a=xyz1"},
		{write("xy"), write("xyz12"), 3, "a=xyz12"},
		{write("xy"), write("xyz12"), 4, "a=xy"},
		{write("xy"), write("xyz12"), 5, "a=xyz"},
		{write("xy"), write("xyz12"), -1, "a=xyz12"},
		{write("xy"), write("xyz12"), -2, "a=xyz1"},
		{write("xy"), write("xyz12"), -4, "a=xy"},
		{write("xy"), write("xyz12"), math.MaxInt, "a=xyz12"},
		{write("xy"), write("xyz12"), math.MinInt, "a=xy"},
		{write(""), write("ab"), 0, "a="},
		{write(""), write("ab"), 1, "a=a"},
		{write(""), write("ab"), 3, "a="},
		{same, write("ab"), 0, ""},
		{same, write("ab"), 1, "a=a"},
		{same, write("ab"), 2, "a=ab"},
		{same, write("ab"), 3, ""},
		{same, write("ab"), -3, ""},
		// others: the current one if c is odd
		{write("xy"), write("xz12"), 0, "a=xy"},
		{write("xy"), write("xz12"), 1, "a=xz12"},
		{write("xy"), write("xz12"), 2, "a=xy"},
		{write("xy"), write("xz12"), -1, "a=xz12"},
		{write("xy"), write("xz12"), math.MinInt, "a=xy"},
		{write("xy"), write("xz12"), math.MaxInt, "a=xz12"},
		{write("xy"), write("xz"), 1, "a=xz"},
		{write("xy"), write("xz"), 4, "a=xy"},
		{write("xy"), write("x"), 1, "a=x"},
		{write("xy"), write("x"), 6, "a=xy"},
		{write("xy"), write(""), 3, "a="},
		{write("xy"), write(""), 4, "a=xy"},
		{write("xy"), remove, 0, "a=xy"},
		{write("xy"), remove, 1, ""},
		{write("xy"), remove, -3, ""},
		{write(""), remove, 2, "a="},
		{write(""), remove, 5, ""},
		{same, write(""), 0, ""},
		{same, write(""), 1, "a="},
		{same, write(""), 2, ""},
		// no difference: nothing to choose
		{write("xy"), write("xy"), 1, "a=xy"},
		{write(""), same, 1, "a="},
		{same, same, 1, ""},
	} {
		d := platter.New(100)
		c.sure(d)
		if d.Sync(); !d.Safe() {
			t.Fatal("not synced")
		}
		c.now(d)
		l, _ := d.Names()
		what := fmt.Sprintf("Crash %d of %q to %q", c.choice, l, c.want)
		d.Crash([]int{c.choice})
		var files []string
		if c.want != "" {
			files = []string{c.want}
		}
		wantFiles(t, what, d, files...)
		want(t, what+": Safe", d.Safe(), true)
		wantUsed(t, what, d, max(len(c.want)-2, 0))
		d.Crash([]int{1, 1})
		wantFiles(t, what+", and another one", d, files...)
	}
}

// P4.1: a removal that is not durable and a crash that undoes it leave the file as it was synced.
func TestCrashAfterRemoveAndWrite(t *testing.T) {
	d := platter.New(100)
	must(t, d.Write("a", "xy"), d.Sync(), d.Remove("a"), d.Append("a", "xyz"))
	d.Crash([]int{0})
	wantFiles(t, "Crash 0", d, "a=xy")
	must(t, d.Remove("a"), d.Append("a", "xyz"))
	d.Crash([]int{1})
	wantFiles(t, "Crash 1", d, "a=xyz")
}

// P4.1: choices are used in ascending order of names, one for each file that is not safe, as long as there are some.
func TestCrashChoices(t *testing.T) {
	made := func() *platter.Disk {
		d := platter.New(100)
		must(t, d.Write("a", "1"), d.Write("c", "3"), d.Write("e", "5"), d.Write("g", "7"), d.Sync())
		must(t, d.Append("e", "xyz"), d.Write("g", "8"), d.Write("b", "uvw"), d.Remove("c"), d.Append("B", "rst"))
		return d
	}
	// not safe: B, b, c, e, g
	for _, c := range []struct {
		choice []int
		files  string
	}{
		{nil, "a=1 c=3 e=5 g=7"},
		{[]int{}, "a=1 c=3 e=5 g=7"},
		{[]int{0, 0, 0, 0, 0}, "a=1 c=3 e=5 g=7"},
		{[]int{1}, "B=r a=1 c=3 e=5 g=7"},
		{[]int{0, 2}, "a=1 b=uv c=3 e=5 g=7"},
		{[]int{3, 2, 1}, "B=rst a=1 b=uv e=5 g=7"},
		{[]int{0, 0, 0, 2}, "a=1 c=3 e=5xy g=7"},
		{[]int{0, 0, 0, 0, 1}, "a=1 c=3 e=5 g=8"},
		{[]int{1, 2, 3, 7, 5, 9, 9}, "B=r a=1 b=uv e=5xyz g=8"},
	} {
		d := made()
		choice := slices.Clone(c.choice)
		d.Crash(choice)
		wantFiles(t, fmt.Sprint("Crash ", c.choice), d, strings.Fields(c.files)...)
		want(t, "Safe", d.Safe(), true)
		if !slices.Equal(choice, c.choice) {
			t.Errorf("Crash changed its argument to %v", choice)
		}
	}
}

// P4.1: Spoil changes a byte of a file that is safe, for good.
func TestSpoil(t *testing.T) {
	d := platter.New(100)
	want(t, "no file", d.Spoil("a", 0, 1), false)
	must(t, d.Write("a", "abc"))
	want(t, "a file that is not safe", d.Spoil("a", 0, 1), false)
	must(t, d.Sync())
	for _, at := range []int{-1, 3, 4, math.MaxInt, math.MinInt} {
		want(t, fmt.Sprint("byte ", at), d.Spoil("a", at, 1), false)
	}
	wantFiles(t, "nothing is spoilt", d, "a=abc")
	want(t, "the first byte", d.Spoil("a", 0, 1), true)
	want(t, "the last byte", d.Spoil("a", 2, 0xff), true)
	want(t, "no bit", d.Spoil("a", 1, 0), true)
	wantFiles(t, "two bytes are spoilt", d, "a=`b\x9c")
	want(t, "Safe", d.Safe(), true)
	wantUsed(t, "spoilt", d, 3)
	d.Crash([]int{1})
	wantFiles(t, "it stays", d, "a=`b\x9c")
	want(t, "the first byte again", d.Spoil("a", 0, 1), true)
	wantFiles(t, "one byte is spoilt", d, "a=ab\x9c")
	must(t, d.Append("a", "d"))
	want(t, "added bytes", d.Spoil("a", 0, 1), false)
	d.Crash(nil)
	wantFiles(t, "added bytes are gone", d, "a=ab\x9c")
	must(t, d.Remove("a"))
	want(t, "a removed file", d.Spoil("a", 0, 1), false)
	must(t, d.Sync())
	want(t, "a file that was removed for good", d.Spoil("a", 0, 1), false)
	must(t, d.Write("e", ""), d.Sync())
	want(t, "an empty file", d.Spoil("e", 0, 1), false)
	must(t, d.Write("f", "pq"), d.Sync(), d.Write("f", "pq"))
	want(t, "a file that is the same again", d.Spoil("f", 1, 1), true)
	wantFiles(t, "it is spoilt", d, "e=", "f=pp")
	d.Crash(nil)
	wantFiles(t, "it is spoilt for good", d, "e=", "f=pp")
}

// P4.1, P4.3: Used is the sum of the weights, by the greater one of a file's lengths.
func TestWeights(t *testing.T) {
	d := platter.New(10)
	steps := []struct {
		what string
		call func() api.Errno
		e    api.Errno
		used int
	}{
		{"Write", func() api.Errno { return d.Write("a", "12345") }, api.OK, 5},
		{"Write less", func() api.Errno { return d.Write("a", "1234") }, api.OK, 4},
		{"Sync", func() api.Errno { return d.Sync() }, api.OK, 4},
		{"Write less than what is durable", func() api.Errno { return d.Write("a", "x") }, api.OK, 4},
		{"Append up to what is durable", func() api.Errno { return d.Append("a", "yzw") }, api.OK, 4},
		{"Append beyond it", func() api.Errno { return d.Append("a", "!!") }, api.OK, 6},
		{"Remove", func() api.Errno { return d.Remove("a") }, api.OK, 4},
		{"Append to the removed file", func() api.Errno { return d.Append("a", "12") }, api.OK, 4},
		{"another file", func() api.Errno { return d.Append("b", "123456") }, api.OK, 10},
		{"one byte more", func() api.Errno { return d.Append("b", "7") }, api.ErrFull, 10},
		{"no byte more", func() api.Errno { return d.Append("b", "") }, api.OK, 10},
		{"a full disk's new file", func() api.Errno { return d.Write("c", "") }, api.OK, 10},
		{"with a byte", func() api.Errno { return d.Write("c", "1") }, api.ErrFull, 10},
		{"what weighs nothing more", func() api.Errno { return d.Append("a", "34") }, api.OK, 10},
		{"what weighs one more", func() api.Errno { return d.Append("a", "5") }, api.ErrFull, 10},
		{"Write of what weighs one more", func() api.Errno { return d.Write("a", "54321") }, api.ErrFull, 10},
		{"Write of as much", func() api.Errno { return d.Write("b", "654321") }, api.OK, 10},
		{"Remove one that was never durable", func() api.Errno { return d.Remove("b") }, api.OK, 4},
		{"Write as much as is free", func() api.Errno { return d.Write("a", "0123456789") }, api.OK, 10},
		{"Write more than is free", func() api.Errno { return d.Write("a", "0123456789x") }, api.ErrFull, 10},
		{"Write short ones", func() api.Errno { return d.Write("a", "0") }, api.OK, 4},
		{"Sync makes it short", func() api.Errno { return d.Sync("a") }, api.OK, 1},
		{"Remove it", func() api.Errno { return d.Remove("a", "c") }, api.OK, 1},
		{"for good", func() api.Errno { return d.Sync("a") }, api.OK, 0},
	}
	for _, s := range steps {
		want(t, s.what, s.call(), s.e)
		wantUsed(t, s.what, d, s.used)
	}
	wantFiles(t, "the end", d)
}

// P4.1, P4.3: a call that returns ErrFull changes nothing.
func TestFull(t *testing.T) {
	d := platter.New(4)
	must(t, d.Write("a", "12"), d.Sync(), d.Append("a", "3"))
	want(t, "Append", d.Append("a", "45"), api.ErrFull)
	want(t, "Write", d.Write("a", "67890"), api.ErrFull)
	want(t, "a new file", d.Append("b", "12"), api.ErrFull)
	want(t, "a new file", d.Write("b", "12"), api.ErrFull)
	wantFiles(t, "as before", d, "a=123")
	wantUsed(t, "as before", d, 3)
	d.Crash(nil)
	wantFiles(t, "the durable state", d, "a=12")
	wantUsed(t, "the durable state", d, 2)
	none := platter.New(0)
	want(t, "no room", none.Write("a", "1"), api.ErrFull)
	want(t, "no room", none.Append("a", "1"), api.ErrFull)
	want(t, "no bytes", none.Write("a", ""), api.OK)
	wantFiles(t, "no room", none, "a=")
}

// P4.1, P4.3: bytes that are taken of the disk's meter are not free for files.
func TestMeterIsPromoted(t *testing.T) {
	d := platter.New(10)
	must(t, d.Write("a", "123"), d.Take(4))
	wantUsed(t, "Take", d, 7)
	want(t, "Fits 3", d.Fits(3), true)
	want(t, "Fits 4", d.Fits(4), false)
	want(t, "Write too much", d.Write("b", "1234"), api.ErrFull)
	want(t, "Write the rest", d.Write("b", "123"), api.OK)
	want(t, "Take too much", d.Take(1), api.ErrFull)
	must(t, d.Give(4), d.Sync(), d.Remove("a", "b"), d.Sync())
	wantUsed(t, "all is removed", d, 0)
	must(t, d.Write("a", "12345"), d.Give(3), d.Append("a", "6"))
	wantUsed(t, "Give", d, 3)
	must(t, d.Remove("a"))
	wantUsed(t, "less is used than is removed", d, 0)
}

// calls are those that try their luck, with arguments that are otherwise in order.
var calls = []struct {
	name string
	call func(d *platter.Disk) api.Errno
}{
	{"Write", func(d *platter.Disk) api.Errno { return d.Write("a", "new") }},
	{"Append", func(d *platter.Disk) api.Errno { return d.Append("a", "new") }},
	{"Remove", func(d *platter.Disk) api.Errno { return d.Remove("a") }},
	{"Sync", func(d *platter.Disk) api.Errno { return d.Sync() }},
	{"Sync a", func(d *platter.Disk) api.Errno { return d.Sync("a") }},
	{"Read", func(d *platter.Disk) api.Errno {
		s, e := d.Read("a")
		if e != api.OK && s != "" {
			return -1
		}
		return e
	}},
	{"Names", func(d *platter.Disk) api.Errno {
		l, e := d.Names()
		if e != api.OK && len(l) > 0 {
			return -1
		}
		return e
	}},
}

// faulty are calls that have another error besides that of the luck.
var faulty = []struct {
	name string
	call func(d *platter.Disk) api.Errno
	e    api.Errno
}{
	{"Write without a name", func(d *platter.Disk) api.Errno { return d.Write("", "new") }, api.ErrArg},
	{"Append without a name", func(d *platter.Disk) api.Errno { return d.Append("", "new") }, api.ErrArg},
	{"Write of too much", func(d *platter.Disk) api.Errno { return d.Write("a", strings.Repeat("x", 101)) }, api.ErrFull},
	{"Append of too much", func(d *platter.Disk) api.Errno { return d.Append("a", strings.Repeat("x", 98)) }, api.ErrFull},
	{"Remove of no file", func(d *platter.Disk) api.Errno { return d.Remove("x") }, api.ErrNone},
	{"Read of no file", func(d *platter.Disk) api.Errno { _, e := d.Read("x"); return e }, api.ErrNone},
}

// changed returns a disk with a durable file that has been changed.
func changed(t *testing.T) *platter.Disk {
	t.Helper()
	d := platter.New(100)
	must(t, d.Write("a", "12"), d.Sync(), d.Append("a", "3"))
	return d
}

// P4.1: a call that fails changes nothing, and the one after it succeeds.
func TestFail(t *testing.T) {
	for _, c := range calls {
		d := changed(t)
		d.Fail(0)
		want(t, c.name, c.call(d), api.ErrIO)
		wantFiles(t, c.name, d, "a=123")
		want(t, c.name+": Safe", d.Safe(), false)
		wantUsed(t, c.name, d, 3)
		want(t, c.name+" again", c.call(d), api.OK)

		d = changed(t)
		d.Fail(1)
		want(t, c.name, c.call(d), api.OK)
		_, e := d.Names()
		want(t, c.name+" counts", e, api.ErrIO)

		d = changed(t)
		d.Fail(0)
		d.Fail(-1)
		want(t, c.name+", disarmed", c.call(d), api.OK)
	}
	for _, c := range faulty {
		d := changed(t)
		d.Fail(0)
		want(t, c.name, c.call(d), api.ErrIO)
		want(t, c.name+" again", c.call(d), c.e)
		d.Fail(1)
		want(t, c.name, c.call(d), c.e)
		want(t, c.name+" counts", c.call(d), api.ErrIO)
		wantFiles(t, c.name, d, "a=123")
	}
}

// P4.1: every call of a lost disk that tries its luck returns ErrLost.
func TestLost(t *testing.T) {
	for _, c := range calls {
		d := changed(t)
		d.Fail(0)
		d.Lose()
		want(t, c.name, c.call(d), api.ErrLost)
		want(t, c.name+" again", c.call(d), api.ErrLost)
		want(t, "Lost", d.Lost(), true)
		want(t, "Safe", d.Safe(), false)
		wantUsed(t, c.name, d, 3)
	}
	for _, c := range faulty {
		d := changed(t)
		d.Lose()
		want(t, c.name, c.call(d), api.ErrLost)
	}
}

// P4.1: Crash, Safe and Spoil don't try their luck, and work on a lost disk, too.
func TestCallsWithoutLuck(t *testing.T) {
	d := changed(t)
	d.Fail(0)
	want(t, "Safe", d.Safe(), false)
	d.Crash([]int{1})
	want(t, "Safe", d.Safe(), true)
	want(t, "Spoil", d.Spoil("a", 2, 1), true)
	want(t, "Room", d.Room(), 100)
	wantUsed(t, "Crash", d, 3)
	want(t, "the disk is still armed", d.Try(), api.ErrIO)
	wantFiles(t, "spoilt", d, "a=122")

	d = changed(t)
	d.Lose()
	d.Crash(nil)
	want(t, "Safe", d.Safe(), true)
	wantUsed(t, "a lost disk's Crash", d, 2)
	want(t, "a lost disk's Spoil", d.Spoil("a", 1, 1), true)
	want(t, "Lost", d.Lost(), true)
}

// K3: names that are handed in stay as they are, and two disks share nothing.
func TestArgumentsStay(t *testing.T) {
	d, other := platter.New(100), platter.New(100)
	must(t, d.Write("a", "1"), d.Write("b", "2"), other.Write("a", "3"))
	names := []string{"b", "a", "c"}
	must(t, d.Sync(names[:2]...), d.Remove(names[:2]...))
	if !slices.Equal(names, []string{"b", "a", "c"}) {
		t.Errorf("the names were changed to %q", names)
	}
	names[0] = "a"
	wantFiles(t, "d", d)
	wantFiles(t, "other", other, "a=3")
	d.Crash(nil)
	wantFiles(t, "d after a crash", d, "a=1", "b=2")
}
