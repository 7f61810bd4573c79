package term_test

import (
	"fmt"
	"math"
	"slices"
	"strings"
	"testing"

	"glacier/api"
	"glacier/platter"
	"glacier/seal"
	"glacier/term"
	"glacier/wire"
)

func want[T comparable](t *testing.T, what string, got, want T) {
	t.Helper()
	if got != want {
		t.Errorf("%s: %v, want %v", what, got, want)
	}
}

// must ends the test if a call that prepares it fails.
func must(t *testing.T, l ...api.Errno) {
	t.Helper()
	for i, e := range l {
		if e != api.OK {
			t.Fatalf("call %d: %d", i, e)
		}
	}
}

// tell is a state as text: term, vote; Base, its term, the snapshot; the entries.
func tell(s term.State) string {
	return fmt.Sprintf("%d %d; %d %d %q;%s", s.Term, s.Vote, s.Base, s.BaseTerm, s.Snap, entries(s.Log))
}

func entries(l []term.Entry) string {
	var b strings.Builder
	for _, x := range l {
		fmt.Fprintf(&b, " %d/%d %q", x.Index, x.Term, x.Cmd)
	}
	return b.String()
}

// empty is the zero state.
const empty = `0 0; 0 0 "";`

// wantState compares what Load finds with a state.
func wantState(t *testing.T, what string, d *platter.Disk, state string) {
	t.Helper()
	s, e := term.Load(d)
	want(t, what, e, api.OK)
	want(t, what, tell(s), state)
}

// wantError compares Load's error, with which there is no state.
func wantError(t *testing.T, what string, d *platter.Disk, errno api.Errno) {
	t.Helper()
	s, e := term.Load(d)
	want(t, what, e, errno)
	want(t, what, tell(s), empty)
}

// wantFiles compares all files of a disk with names and contents, one after the other.
func wantFiles(t *testing.T, what string, d *platter.Disk, l ...string) {
	t.Helper()
	names, e := d.Names()
	must(t, e)
	var got []string
	for _, name := range names {
		s, e := d.Read(name)
		must(t, e)
		got = append(got, name, s)
	}
	if !slices.Equal(got, l) {
		t.Errorf("%s: %q, want %q", what, got, l)
	}
}

// record is a frame of two numbers and strings, as the chapter says it of the files.
func record(a, b uint64, l ...string) string {
	var e wire.Enc
	return seal.Frame(e.U(a, b).S(l...).Bytes())
}

// disk returns a disk with files that are durable, of which names and contents are given, one after the other.
func disk(t *testing.T, l ...string) *platter.Disk {
	t.Helper()
	d := platter.New(1 << 22)
	for i := 0; i < len(l); i += 2 {
		must(t, d.Write(l[i], l[i+1]))
	}
	must(t, d.Sync())
	return d
}

// P9.1: the chapter's example.
func TestExample(t *testing.T) {
	d := platter.New(1000)
	must(t, term.SaveTerm(d, 3, 1))
	must(t, term.Append(d, term.Entry{1, 3, "a"}, term.Entry{2, 3, "b"}))
	wantState(t, "Append", d, `3 1; 0 0 ""; 1/3 "a" 2/3 "b"`)
	must(t, term.SaveSnap(d, 1, 3, "s", term.Entry{2, 3, "b"}))
	wantState(t, "SaveSnap", d, `3 1; 1 3 "s"; 2/3 "b"`)
}

// P9.1: a disk on which nothing was stored has the zero state, and Load adds nothing to it.
func TestNothing(t *testing.T) {
	d := platter.New(0)
	wantState(t, "Load", d, empty)
	wantFiles(t, "Load", d)
	must(t, d.Write("other", ""))
	wantState(t, "other files", d, empty)
}

// P9.1: the bytes of the files.
func TestFiles(t *testing.T) {
	d := platter.New(1000)
	must(t, term.SaveTerm(d, 300, 2))
	wantFiles(t, "SaveTerm", d, "term", "\x00\x00\x00\x03\xba\x57\xb5\xfc\x82\x2c\x02")
	must(t, term.SaveTerm(d, 4, 0), term.Append(d, term.Entry{1, 2, "ab"}))
	one, two, three := "\x00\x00\x00\x05\xfd\x73\xea\xda\x01\x02\x02ab", record(2, 2, ""), record(3, 4, "c")
	wantFiles(t, "Append", d, "log", one, "term", record(4, 0))
	must(t, term.Append(d, term.Entry{2, 2, ""}, term.Entry{3, 4, "c"}))
	wantFiles(t, "Append", d, "log", one+two+three, "term", record(4, 0))
	must(t, term.Rewrite(d, term.Entry{2, 2, ""}))
	wantFiles(t, "Rewrite", d, "log", two, "term", record(4, 0))
	must(t, term.SaveSnap(d, 2, 2, "snapshot", term.Entry{3, 4, "c"}))
	snap := "\x00\x00\x00\x0b\x08\x6f\xa6\x51\x02\x02\x08snapshot"
	wantFiles(t, "SaveSnap", d, "log", three, "snap", snap, "term", record(4, 0))
	must(t, term.SaveSnap(d, 3, 4, ""))
	wantFiles(t, "SaveSnap without entries", d, "log", "", "snap", record(3, 4, ""), "term", record(4, 0))
	must(t, term.Append(d), term.Rewrite(d))
	wantFiles(t, "no entries", d, "log", "", "snap", record(3, 4, ""), "term", record(4, 0))
}

// P9.1: each call replaces what it stores, and nothing else.
func TestStored(t *testing.T) {
	d := platter.New(1000)
	for _, c := range []struct {
		what  string
		e     func() api.Errno
		state string
	}{
		{"Rewrite at first", func() api.Errno { return term.Rewrite(d, term.Entry{1, 1, "x"}) }, `0 0; 0 0 ""; 1/1 "x"`},
		{"Rewrite", func() api.Errno { return term.Rewrite(d, term.Entry{1, 1, "a"}, term.Entry{2, 1, "b"}) }, `0 0; 0 0 ""; 1/1 "a" 2/1 "b"`},
		{"SaveTerm", func() api.Errno { return term.SaveTerm(d, 2, 5) }, `2 5; 0 0 ""; 1/1 "a" 2/1 "b"`},
		{"Append nothing", func() api.Errno { return term.Append(d) }, `2 5; 0 0 ""; 1/1 "a" 2/1 "b"`},
		{"Append", func() api.Errno { return term.Append(d, term.Entry{3, 2, "\x00\xff"}) }, `2 5; 0 0 ""; 1/1 "a" 2/1 "b" 3/2 "\x00\xff"`},
		{"SaveTerm without a vote", func() api.Errno { return term.SaveTerm(d, 3, 0) }, `3 0; 0 0 ""; 1/1 "a" 2/1 "b" 3/2 "\x00\xff"`},
		{"SaveSnap", func() api.Errno { return term.SaveSnap(d, 2, 1, "s", term.Entry{3, 2, "\x00\xff"}) }, `3 0; 2 1 "s"; 3/2 "\x00\xff"`},
		{"Append to it", func() api.Errno { return term.Append(d, term.Entry{4, 3, ""}) }, `3 0; 2 1 "s"; 3/2 "\x00\xff" 4/3 ""`},
		{"Rewrite nothing", func() api.Errno { return term.Rewrite(d) }, `3 0; 2 1 "s";`},
		{"Append to nothing", func() api.Errno { return term.Append(d, term.Entry{3, 3, "c"}) }, `3 0; 2 1 "s"; 3/3 "c"`},
		{"SaveSnap without entries", func() api.Errno { return term.SaveSnap(d, 9, 3, "") }, `3 0; 9 3 "";`},
		{"SaveTerm of zeros", func() api.Errno { return term.SaveTerm(d, 0, 0) }, `0 0; 9 3 "";`},
		{"SaveSnap of zeros", func() api.Errno { return term.SaveSnap(d, 0, 0, "") }, empty},
	} {
		want(t, c.what, c.e(), api.OK)
		want(t, c.what+": Safe", d.Safe(), true)
		wantState(t, c.what, d, c.state)
		wantState(t, c.what+", loaded again", d, c.state)
		d.Crash([]int{1, 1, 1})
		wantState(t, c.what+", crashed", d, c.state)
	}
}

// P9.1: the greatest values that can be loaded, and those beyond them.
func TestLimits(t *testing.T) {
	const most = 1 << 40
	cmd := strings.Repeat("c", term.MaxCmd)
	snap := strings.Repeat("s", term.MaxSnap)
	want(t, "MaxCmd", term.MaxCmd, 100000)
	want(t, "MaxSnap", term.MaxSnap, 1000000)
	d := platter.New(1 << 22)
	must(t, term.SaveTerm(d, most, api.MaxNodes))
	must(t, term.SaveSnap(d, most-1, most, snap, term.Entry{most, most, cmd}))
	s, e := term.Load(d)
	want(t, "Load", e, api.OK)
	want(t, "the snapshot", s.Snap == snap, true)
	want(t, "the command", len(s.Log) == 1 && s.Log[0].Cmd == cmd, true)
	s.Snap, s.Log[0].Cmd = "", ""
	want(t, "Load", tell(s), fmt.Sprintf(`%d 5; %d %d ""; %d/%d ""`, most, most-1, most, most, most))
	for _, c := range []struct {
		what  string
		e     func(d *platter.Disk) api.Errno
		errno api.Errno
	}{
		{"a term", func(d *platter.Disk) api.Errno { return term.SaveTerm(d, most+1, 0) }, api.ErrBig},
		{"the greatest term", func(d *platter.Disk) api.Errno { return term.SaveTerm(d, math.MaxInt, 0) }, api.ErrBig},
		{"a vote", func(d *platter.Disk) api.Errno { return term.SaveTerm(d, 1, api.MaxNodes+1) }, api.ErrBig},
		{"a snapshot's number", func(d *platter.Disk) api.Errno { return term.SaveSnap(d, most+1, 1, "") }, api.ErrBig},
		{"a snapshot's term", func(d *platter.Disk) api.Errno { return term.SaveSnap(d, 1, most+1, "") }, api.ErrBig},
		{"a snapshot", func(d *platter.Disk) api.Errno { return term.SaveSnap(d, 1, 1, snap+"s") }, api.ErrBig},
		{"a snapshot's frame", func(d *platter.Disk) api.Errno { return term.SaveSnap(d, 1, 1, snap+cmd) }, api.ErrBig},
		{"an entry's number", func(d *platter.Disk) api.Errno { return term.Append(d, term.Entry{most + 1, 1, ""}) }, api.ErrForm},
		{"an entry's term", func(d *platter.Disk) api.Errno { return term.Append(d, term.Entry{1, most + 1, ""}) }, api.ErrForm},
		{"a command", func(d *platter.Disk) api.Errno { return term.Append(d, term.Entry{1, 1, cmd + "c"}) }, api.ErrForm},
		{"a command that is rewritten", func(d *platter.Disk) api.Errno { return term.Rewrite(d, term.Entry{1, 1, cmd + "c"}) }, api.ErrForm},
		{"a command behind a snapshot", func(d *platter.Disk) api.Errno { return term.SaveSnap(d, 1, 1, "", term.Entry{2, 1, cmd + "c"}) }, api.ErrForm},
	} {
		d := platter.New(1 << 22)
		want(t, c.what, c.e(d), api.OK)
		wantError(t, c.what, d, c.errno)
	}
}

// inside is a frame with any contents.
func inside(s string) string {
	return seal.Frame(s)
}

// P9.1: what Load makes of term, whatever its bytes are.
func TestLoadTerm(t *testing.T) {
	good := record(7, 2)
	for n := range len(good) {
		wantState(t, fmt.Sprint("the first bytes of term: ", n), disk(t, "term", good[:n]), empty)
	}
	wantState(t, "term", disk(t, "term", good), `7 2; 0 0 "";`)
	for _, c := range []struct {
		what, text string
		e          api.Errno
	}{
		{"a byte behind the frame", good + "x", api.ErrForm},
		{"another frame behind it", good + good, api.ErrForm},
		{"a wrong checksum", good[:len(good)-1] + "\x03", api.ErrSum},
		{"a frame that is too long", "\x00\x10\x00\x01" + good, api.ErrBig},
		{"no numbers", inside(""), api.ErrEnd},
		{"one number", inside("\x07"), api.ErrEnd},
		{"half a number", inside("\x07\x81"), api.ErrEnd},
		{"a number that begins with 128", inside("\x80\x07\x02"), api.ErrForm},
		{"a number of too many bits", inside("\xff\xff\xff\xff\xff\xff\xff\xff\xff\xff\x01"), api.ErrForm},
		{"a byte behind the numbers", inside("\x07\x02\x00"), api.ErrForm},
		{"a term that is too great", record(1<<40+1, 0), api.ErrBig},
		{"a term of 64 bits", record(math.MaxUint64, 0), api.ErrBig},
		{"a vote that is too great", record(7, 6), api.ErrBig},
		{"a vote that is too great, and more", inside("\x07\x06\x00"), api.ErrBig},
	} {
		wantError(t, c.what, disk(t, "term", c.text), c.e)
		wantError(t, c.what+" and other files", disk(t, "term", c.text, "snap", "bad", "log", record(1, 1, "a")), c.e)
	}
}

// P9.1: what Load makes of snap.
func TestLoadSnap(t *testing.T) {
	good := record(7, 2, "snapshot")
	for n := range len(good) {
		wantState(t, fmt.Sprint("the first bytes of snap: ", n), disk(t, "snap", good[:n], "log", record(1, 1, "a")), `0 0; 0 0 ""; 1/1 "a"`)
	}
	wantState(t, "snap", disk(t, "snap", good, "log", record(1, 1, "a")), `0 0; 7 2 "snapshot";`)
	for _, c := range []struct {
		what, text string
		e          api.Errno
	}{
		{"a byte behind the frame", good + "x", api.ErrForm},
		{"another frame behind it", good + good, api.ErrForm},
		{"a wrong checksum", good[:len(good)-1] + "x", api.ErrSum},
		{"a frame that is too long", "\x00\x10\x00\x01" + good, api.ErrBig},
		{"nothing inside", inside(""), api.ErrEnd},
		{"only numbers", record(7, 2), api.ErrEnd},
		{"fewer bytes than it says", inside("\x07\x02\x03ab"), api.ErrEnd},
		{"more bytes than it says", inside("\x07\x02\x01ab"), api.ErrForm},
		{"a number that begins with 128", inside("\x80\x07\x02\x00"), api.ErrForm},
		{"a number that is too great", record(1<<40+1, 2, ""), api.ErrBig},
		{"a term that is too great", record(7, 1<<40+1, ""), api.ErrBig},
		{"a length that is too great", inside("\x07\x02\xff\xff\xff\x7f"), api.ErrBig},
	} {
		wantError(t, c.what, disk(t, "snap", c.text), c.e)
		wantError(t, c.what+" and other files", disk(t, "term", record(1, 1), "snap", c.text, "log", inside("bad")), c.e)
		wantError(t, c.what+" and a bad term", disk(t, "term", record(1, 6), "snap", c.text), api.ErrBig)
	}
}

// P9.1: a frame of log that is not an entry gives ErrForm, wherever it is.
func TestLoadBadLog(t *testing.T) {
	good := record(1, 2, "abc")
	for _, c := range []struct{ what, text string }{
		{"nothing inside", inside("")},
		{"only numbers", record(1, 2)},
		{"fewer bytes than it says", inside("\x01\x02\x03ab")},
		{"more bytes than it says", inside("\x01\x02\x01ab")},
		{"a number that begins with 128", inside("\x80\x01\x02\x00")},
		{"a number that is too great", record(1<<40+1, 2, "")},
		{"a term that is too great", record(1, 1<<40+1, "")},
		{"a length that is too great", inside("\x01\x02\xff\xff\xff\x7f")},
		{"a second command", record(1, 2, "a", "b")},
	} {
		wantError(t, c.what, disk(t, "log", c.text), api.ErrForm)
		wantError(t, c.what+" ahead", disk(t, "log", c.text+good), api.ErrForm)
		wantError(t, c.what+" behind", disk(t, "log", good+c.text), api.ErrForm)
		wantError(t, c.what+" after the snapshot", disk(t, "snap", record(9, 9, ""), "log", good+c.text), api.ErrForm)
		wantError(t, c.what+" and bytes left", disk(t, "log", good+c.text+"x"), api.ErrForm)
		wantError(t, c.what+" and other files", disk(t, "term", record(1, 1), "snap", record(0, 0, ""), "log", c.text), api.ErrForm)
		wantError(t, c.what+" and a bad snap", disk(t, "snap", good+"x", "log", c.text), api.ErrForm)
		wantError(t, c.what+" and a worse snap", disk(t, "snap", good[:len(good)-1]+"x", "log", c.text), api.ErrSum)
	}
}

// P9.1: bytes of log that are left behind its frames are removed, durably.
func TestLoadTornLog(t *testing.T) {
	one, two, three := record(1, 1, "one"), record(2, 1, "two"), record(3, 2, "three")
	state := `0 0; 0 0 ""; 1/1 "one" 2/1 "two"`
	tails := []string{"x", strings.Repeat("\x00", 8) + "x", two[:len(two)-1] + "x", two[:len(two)-1] + "x" + three, "\x00\x10\x00\x01" + three}
	for n := 1; n < len(three); n++ {
		tails = append(tails, three[:n])
	}
	for _, tail := range tails {
		d := disk(t, "log", one+two+tail)
		wantState(t, fmt.Sprintf("%q", tail), d, state)
		wantFiles(t, fmt.Sprintf("%q", tail), d, "log", one+two)
		want(t, "Safe", d.Safe(), true)
		must(t, term.Append(d, term.Entry{3, 2, "three"}))
		wantState(t, fmt.Sprintf("%q, Append", tail), d, state+` 3/2 "three"`)
	}
	d := disk(t, "log", three[:9])
	wantState(t, "no whole entry", d, empty)
	wantFiles(t, "no whole entry", d, "log", "")
	d = disk(t, "snap", three[:9], "log", one)
	wantState(t, "other files stay", d, `0 0; 0 0 ""; 1/1 "one"`)
	wantFiles(t, "other files stay", d, "log", one, "snap", three[:9])
}

// P9.1: a state has those entries whose number follows that of the previous one.
func TestLoadFollowing(t *testing.T) {
	for _, c := range []struct {
		base int
		log  []int
		want []int
	}{
		{0, []int{1, 2, 3}, []int{1, 2, 3}},
		{0, []int{0, 1}, []int{1}},
		{0, []int{2, 3}, nil},
		{0, []int{2, 1, 2, 3}, []int{1, 2, 3}},
		{0, []int{1, 1, 2, 2, 1, 3}, []int{1, 2, 3}},
		{0, []int{1, 3, 4}, []int{1}},
		{0, []int{1, 3, 2, 4, 3}, []int{1, 2, 3}},
		{2, []int{1, 2, 3, 4}, []int{3, 4}},
		{2, []int{3, 4}, []int{3, 4}},
		{2, []int{1, 2}, nil},
		{2, []int{4, 5}, nil},
		{2, []int{2, 3, 2, 3, 4}, []int{3, 4}},
		{9, []int{1, 2, 3, 10}, []int{10}},
		{9, nil, nil},
		{1<<40 - 1, []int{1 << 40}, []int{1 << 40}},
		{1 << 40, []int{1 << 40, 1}, nil},
	} {
		d := platter.New(10000)
		must(t, term.SaveSnap(d, c.base, 1, ""))
		var l []term.Entry
		for i, x := range c.log {
			// The terms tell which one of equal numbers it is.
			must(t, term.Append(d, term.Entry{x, i + 1, ""}))
		}
		last := -1
		for _, x := range c.want {
			i := last + 1 + slices.Index(c.log[last+1:], x)
			l = append(l, term.Entry{x, i + 1, ""})
			last = i
		}
		wantState(t, fmt.Sprint(c.log, " after ", c.base), d, fmt.Sprintf(`0 0; %d 1 "";%s`, c.base, entries(l)))
	}
}

// P9.1: each call performs just these calls of the disk, ends with the first error, and does nothing more.
func TestErrors(t *testing.T) {
	one, two := term.Entry{1, 1, "a"}, term.Entry{2, 1, "b"}
	before := []string{"log", record(1, 1, "a"), "snap", record(0, 0, "old"), "term", record(1, 1)}
	after := func(name, text string) []string {
		l := slices.Clone(before)
		l[slices.Index(l, name)+1] = text
		return l
	}
	newLog, newSnap := record(2, 1, "b"), record(1, 1, "new")
	for _, c := range []struct {
		what  string
		e     func(d *platter.Disk) api.Errno
		files [][]string // after so many calls that succeed
	}{
		{"SaveTerm", func(d *platter.Disk) api.Errno { return term.SaveTerm(d, 2, 3) },
			[][]string{before, after("term", record(2, 3)), after("term", record(2, 3))}},
		{"Append", func(d *platter.Disk) api.Errno { return term.Append(d, two) },
			[][]string{before, after("log", record(1, 1, "a")+newLog), after("log", record(1, 1, "a")+newLog)}},
		{"Append nothing", func(d *platter.Disk) api.Errno { return term.Append(d) },
			[][]string{before, before, before}},
		{"Rewrite", func(d *platter.Disk) api.Errno { return term.Rewrite(d, two) },
			[][]string{before, after("log", newLog), after("log", newLog)}},
		{"SaveSnap", func(d *platter.Disk) api.Errno { return term.SaveSnap(d, 1, 1, "new", two) },
			[][]string{before, after("snap", newSnap), after("snap", newSnap), {"log", newLog, "snap", newSnap, "term", record(1, 1)}, {"log", newLog, "snap", newSnap, "term", record(1, 1)}}},
	} {
		for n, files := range c.files {
			d := platter.New(1000)
			must(t, term.SaveTerm(d, 1, 1), term.SaveSnap(d, 0, 0, "old", one))
			d.Fail(n)
			e := api.ErrIO
			if n == len(c.files)-1 {
				e = api.OK
			}
			what := fmt.Sprint(c.what, " failing at call ", n)
			want(t, what, c.e(d), e)
			d.Fail(-1)
			wantFiles(t, what, d, files...)
			want(t, what+": Safe", d.Safe(), e == api.OK || slices.Equal(files, before) || c.what == "SaveSnap" && n == 2)
		}
		d := platter.New(1000)
		d.Lose()
		want(t, c.what+" on a lost disk", c.e(d), api.ErrLost)
	}
}

// P9.1: Load returns the disk's errors, which come first where the files are bad, too.
func TestLoadErrors(t *testing.T) {
	one := record(1, 1, "a")
	for _, c := range []struct {
		what  string
		files []string
		errs  []api.Errno // if the disk fails after so many calls
	}{
		{"no files", nil, []api.Errno{api.ErrIO, api.ErrIO, api.ErrIO, api.OK}},
		{"good files", []string{"term", record(1, 1), "snap", record(0, 0, ""), "log", one}, []api.Errno{api.ErrIO, api.ErrIO, api.ErrIO, api.OK}},
		{"a bad term", []string{"term", "\xff" + one}, []api.Errno{api.ErrIO, api.ErrBig, api.ErrBig, api.ErrBig}},
		{"a bad snap", []string{"snap", "\xff" + one}, []api.Errno{api.ErrIO, api.ErrIO, api.ErrBig, api.ErrBig}},
		{"a bad log", []string{"log", inside("")}, []api.Errno{api.ErrIO, api.ErrIO, api.ErrIO, api.ErrForm}},
		{"a torn log", []string{"log", one + "x"}, []api.Errno{api.ErrIO, api.ErrIO, api.ErrIO, api.ErrIO, api.ErrIO, api.OK}},
		{"a torn bad log", []string{"log", inside("") + "x"}, []api.Errno{api.ErrIO, api.ErrIO, api.ErrIO, api.ErrIO, api.ErrIO, api.ErrForm}},
	} {
		for n, e := range c.errs {
			d := disk(t, c.files...)
			d.Fail(n)
			s, got := term.Load(d)
			want(t, fmt.Sprint(c.what, ", failing at call ", n), got, e)
			if e != api.OK {
				want(t, c.what, tell(s), empty)
			}
		}
		d := disk(t, c.files...)
		d.Lose()
		wantError(t, c.what+" on a lost disk", d, api.ErrLost)
	}
}

// P9.1: without space nothing is stored, or of SaveSnap the snapshot alone.
func TestFull(t *testing.T) {
	one, two := term.Entry{1, 1, "a"}, term.Entry{2, 1, "b"}
	more := term.Entry{3, 1, strings.Repeat("c", 50)}
	fill := func(free int) *platter.Disk {
		d := platter.New(1000)
		must(t, term.SaveTerm(d, 1, 1), term.Append(d, one, two))
		must(t, d.Write("other", strings.Repeat("x", d.Free()-free)), d.Sync())
		return d
	}
	old := `1 1; 0 0 ""; 1/1 "a" 2/1 "b"`
	d := fill(11)
	want(t, "Append", term.Append(d, term.Entry{3, 1, "c"}), api.ErrFull)
	want(t, "Append of several", term.Append(d, term.Entry{3, 1, ""}, term.Entry{4, 1, ""}), api.ErrFull)
	want(t, "Rewrite", term.Rewrite(d, one, two, more), api.ErrFull)
	want(t, "SaveTerm", term.SaveTerm(d, 1<<40, 1), api.OK) // five bytes more
	want(t, "SaveSnap", term.SaveSnap(d, 1, 1, "", two), api.ErrFull)
	want(t, "Safe", d.Safe(), true)
	must(t, term.SaveTerm(d, 1, 1))
	wantState(t, "without space", d, old)
	want(t, "Append of fewer bytes", term.Append(d, term.Entry{3, 1, ""}), api.OK)
	wantState(t, "with space", d, old+` 3/1 ""`)
	d = fill(4)
	want(t, "SaveTerm", term.SaveTerm(d, 1<<40, 1), api.ErrFull)
	wantState(t, "SaveTerm", d, old)
	d = fill(20)
	want(t, "SaveSnap", term.SaveSnap(d, 1, 1, "snap", two, more), api.ErrFull)
	want(t, "Safe", d.Safe(), true)
	wantState(t, "SaveSnap", d, `1 1; 1 1 "snap"; 2/1 "b"`)
	want(t, "SaveSnap again", term.SaveSnap(d, 1, 1, "snap", two), api.OK)
	wantState(t, "SaveSnap again", d, `1 1; 1 1 "snap"; 2/1 "b"`)
	log, e := d.Read("log")
	want(t, "the log", e, api.OK)
	want(t, "the log", log, record(2, 1, "b"))
}

// P9.1: only the call's own file is synced.
func TestOwnFile(t *testing.T) {
	for what, e := range map[string]func(d *platter.Disk) api.Errno{
		"SaveTerm": func(d *platter.Disk) api.Errno { return term.SaveTerm(d, 1, 1) },
		"Append":   func(d *platter.Disk) api.Errno { return term.Append(d, term.Entry{1, 1, ""}) },
		"Rewrite":  func(d *platter.Disk) api.Errno { return term.Rewrite(d, term.Entry{1, 1, ""}) },
		"SaveSnap": func(d *platter.Disk) api.Errno { return term.SaveSnap(d, 1, 1, "") },
		"Load": func(d *platter.Disk) api.Errno {
			must(t, d.Write("log", "x"))
			_, e := term.Load(d)
			return e
		},
	} {
		d := platter.New(1000)
		must(t, d.Write("other", "text"))
		want(t, what, e(d), api.OK)
		want(t, what+": Safe", d.Safe(), false)
		d.Crash(nil)
		_, errno := d.Read("other")
		want(t, what+": other", errno, api.ErrNone)
	}
}

// P9.1: Last, TermAt and From of a state.
func TestState(t *testing.T) {
	a, b, c := term.Entry{6, 2, "a"}, term.Entry{7, 2, "b"}, term.Entry{8, 4, "c"}
	full := term.State{Base: 5, BaseTerm: 1, Log: []term.Entry{a, b, c}}
	for _, x := range []struct {
		what     string
		s        term.State
		at, term int
		terms    map[int]int
	}{
		{"empty", term.State{}, 0, 0, map[int]int{0: 0}},
		{"a term and a vote", term.State{Term: 9, Vote: 3}, 0, 0, map[int]int{0: 0}},
		{"a snapshot", term.State{Base: 5, BaseTerm: 3}, 5, 3, map[int]int{5: 3}},
		{"a snapshot and entries", full, 8, 4, map[int]int{5: 1, 6: 2, 7: 2, 8: 4}},
		{"only entries", term.State{Log: []term.Entry{{1, 2, ""}, {2, 3, ""}}}, 2, 3, map[int]int{0: 0, 1: 2, 2: 3}},
	} {
		at, last := x.s.Last()
		want(t, x.what+": Last", at, x.at)
		want(t, x.what+": Last", last, x.term)
		for _, index := range []int{math.MinInt, -1, 0, 1, 2, 3, 4, 5, 6, 7, 8, 9, 10, 1 << 40, math.MaxInt} {
			term, is := x.terms[index]
			got, ok := x.s.TermAt(index)
			want(t, fmt.Sprint(x.what, ": TermAt ", index), got, term)
			want(t, fmt.Sprint(x.what, ": TermAt ", index), ok, is)
		}
	}
	for _, x := range []struct {
		index, most int
		want        []term.Entry
	}{
		{6, 3, []term.Entry{a, b, c}}, {6, 2, []term.Entry{a, b}}, {6, 1, []term.Entry{a}}, {6, 0, nil}, {6, -1, nil},
		{6, math.MinInt, nil}, {6, 4, []term.Entry{a, b, c}}, {6, math.MaxInt, []term.Entry{a, b, c}},
		{7, 9, []term.Entry{b, c}}, {7, 1, []term.Entry{b}}, {8, 1, []term.Entry{c}}, {8, math.MaxInt, []term.Entry{c}},
		{9, 9, nil}, {10, 9, nil}, {5, 9, nil}, {4, 9, nil}, {0, 9, nil}, {-1, 9, nil},
		{math.MaxInt, math.MaxInt, nil}, {math.MinInt, math.MaxInt, nil},
	} {
		want(t, fmt.Sprint("From ", x.index, ", ", x.most), entries(full.From(x.index, x.most)), entries(x.want))
	}
	want(t, "From of nothing", len((&term.State{}).From(1, 9)), 0)
	want(t, "From of a snapshot", len((&term.State{Base: 5}).From(6, 9)), 0)
}

// P9.1: results share no memory, and arguments stay as they are.
func TestMemory(t *testing.T) {
	log := []term.Entry{{1, 1, "a"}, {2, 1, "b"}, {3, 1, "c"}}
	s := term.State{Log: log}
	for range 2 {
		l := s.From(2, 1)
		want(t, "From", entries(l), ` 2/1 "b"`)
		l[0] = term.Entry{}
		l = append(l, term.Entry{9, 9, ""})
		want(t, "the state", entries(s.Log), ` 1/1 "a" 2/1 "b" 3/1 "c"`)
	}
	d := platter.New(1000)
	must(t, term.Append(d, log[:2]...), term.Rewrite(d, log[:2]...), term.SaveSnap(d, 0, 0, "", log[:2]...))
	want(t, "the argument", entries(log), ` 1/1 "a" 2/1 "b" 3/1 "c"`)
	log[0] = term.Entry{9, 9, "x"}
	for range 2 {
		s, e := term.Load(d)
		must(t, e)
		want(t, "Load", entries(s.Log), ` 1/1 "a" 2/1 "b"`)
		s.Log[0] = term.Entry{}
	}
}

// P9.1: numbers below 0 are no ones that can be passed, but nothing panics.
func TestNoPanic(t *testing.T) {
	for _, n := range []int{math.MinInt, -1, math.MaxInt} {
		d := platter.New(1000)
		term.SaveTerm(d, n, n)
		term.Append(d, term.Entry{n, n, ""})
		term.Rewrite(d, term.Entry{n, n, ""})
		term.SaveSnap(d, n, n, "", term.Entry{n, n, ""})
		term.Load(d)
		for _, base := range []int{math.MinInt, -1, 0, 1, math.MaxInt} {
			s := term.State{Base: base, Log: []term.Entry{{}, {}}}
			s.Last()
			s.TermAt(n)
			s.From(n, n)
		}
	}
}
