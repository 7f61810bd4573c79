package chunk_test

import (
	"fmt"
	"math"
	"slices"
	"strings"
	"testing"

	"glacier/api"
	"glacier/chunk"
	"glacier/platter"
	"glacier/seal"
	"glacier/wire"
)

func want[T comparable](t *testing.T, what string, got, want T) {
	t.Helper()
	if got != want {
		t.Errorf("%s: %v, want %v", what, got, want)
	}
}

// must ends the test if a call that prepares it fails.
func must(t *testing.T, l ...api.Errno) {
	t.Helper()
	for i, e := range l {
		if e != api.OK {
			t.Fatalf("call %d: %d", i, e)
		}
	}
}

func open(t *testing.T, d *platter.Disk, limit int) *chunk.Store {
	t.Helper()
	s, e := chunk.Open(d, limit)
	if e != api.OK || s == nil {
		t.Fatalf("Open: %d", e)
	}
	return s
}

// chunks tells all chunks of a store: "7=a 8=b".
func chunks(t *testing.T, s *chunk.Store) string {
	t.Helper()
	var l []string
	for _, id := range s.IDs() {
		text, e := s.Get(id)
		if e != api.OK || !s.Has(id) {
			t.Errorf("Get %d: %d, Has: %v", id, e, s.Has(id))
		}
		l = append(l, fmt.Sprint(id, "=", text))
	}
	return strings.Join(l, " ")
}

// wantChunks compares the chunks of a store with those that a new one finds on its disk.
func wantChunks(t *testing.T, what string, s *chunk.Store, d *platter.Disk, l string) {
	t.Helper()
	want(t, what, chunks(t, s), l)
	want(t, what+", opened again", chunks(t, open(t, d, 100)), l)
}

// wantFiles compares all files of a disk with names and contents, one after the other.
func wantFiles(t *testing.T, what string, d *platter.Disk, l ...string) {
	t.Helper()
	names, e := d.Names()
	must(t, e)
	var got []string
	for _, name := range names {
		s, e := d.Read(name)
		must(t, e)
		got = append(got, name, s)
	}
	if !slices.Equal(got, l) {
		t.Errorf("%s: %q, want %q", what, got, l)
	}
}

// frame is a record as the chapter says it.
func frame(kind, number uint64, data string) string {
	var e wire.Enc
	return seal.Frame(e.U(kind, number).S(data).Bytes())
}

// disk returns a disk with files, of which names and contents are given, one after the other.
func disk(t *testing.T, l ...string) *platter.Disk {
	t.Helper()
	d := platter.New(1 << 20)
	for i := 0; i < len(l); i += 2 {
		must(t, d.Write(l[i], l[i+1]))
	}
	must(t, d.Sync())
	return d
}

// P6.1: files are named by seven digits.
func TestName(t *testing.T) {
	for seg, name := range map[int]string{
		1: "seg-0000001", 9: "seg-0000009", 10: "seg-0000010", 123: "seg-0000123",
		999999: "seg-0999999", 1000000: "seg-1000000", 9999999: "seg-9999999",
	} {
		want(t, "Name", chunk.Name(seg), name)
	}
	for _, seg := range []int{0, -1, -999999, 10000000, math.MaxInt, math.MinInt} {
		want(t, "Name of no file", chunk.Name(seg), "")
	}
}

// P6.1: a store without chunks.
func TestEmpty(t *testing.T) {
	d := platter.New(100)
	s := open(t, d, 50)
	want(t, "Has", s.Has(7), false)
	text, e := s.Get(7)
	want(t, "Get", text, "")
	want(t, "Get", e, api.ErrNone)
	want(t, "Drop", s.Drop(7), api.ErrNone)
	want(t, "Sync", s.Sync(), api.OK)
	wantFiles(t, "no files", d)
	wantChunks(t, "Open", s, d, "")
}

// P6.1, P6.2, the chapter's example; a crash at each call of the disk is in TestInterrupted.
func TestExample(t *testing.T) {
	d := platter.New(1000)
	s := open(t, d, 100)
	must(t, s.Put(7, "a"), s.Sync(), s.Put(8, "b"))
	wantChunks(t, "Put", s, d, "7=a 8=b")
	d.Crash(nil)
	s = open(t, d, 100)
	wantChunks(t, "Crash", s, d, "7=a")
	must(t, s.Compact())
	wantChunks(t, "Compact", s, d, "7=a")
	d.Crash(nil)
	wantChunks(t, "Crash after Compact", s, d, "7=a")
}

// P6.1: Put adds a chunk, Drop removes it, and Get, Has and IDs tell which ones there are.
func TestPutAndDrop(t *testing.T) {
	d := platter.New(1 << 20)
	s := open(t, d, 300)
	big := strings.Repeat("b", api.MaxBlob)
	want(t, "Put", s.Put(5, "five"), api.OK)
	want(t, "Put without bytes", s.Put(0, ""), api.OK)
	want(t, "Put of the greatest ID", s.Put(math.MaxUint64, "\x00\xff"), api.OK)
	want(t, "Put of the most bytes", s.Put(1<<32, big), api.OK)
	want(t, "Put of too many bytes", s.Put(6, big+"b"), api.ErrBig)
	want(t, "Put of too many bytes that is there", s.Put(5, big+"b"), api.ErrBig)
	want(t, "Put again", s.Put(5, "five"), api.ErrThere)
	want(t, "Put of other bytes", s.Put(0, "zero"), api.ErrThere)
	want(t, "Drop of nothing", s.Drop(6), api.ErrNone)
	all := fmt.Sprintf("0= 5=five %d=%s %d=\x00\xff", 1<<32, big, uint64(math.MaxUint64))
	wantChunks(t, "Put", s, d, all)
	want(t, "Drop", s.Drop(0), api.OK)
	want(t, "Drop again", s.Drop(0), api.ErrNone)
	want(t, "Drop of many bytes", s.Drop(1<<32), api.OK)
	want(t, "Put of what was dropped", s.Put(0, "zero"), api.OK)
	wantChunks(t, "Drop", s, d, fmt.Sprintf("0=zero 5=five %d=\x00\xff", uint64(math.MaxUint64)))
	text, e := s.Get(1 << 32)
	want(t, "Get of what was dropped", text, "")
	want(t, "Get of what was dropped", e, api.ErrNone)
	want(t, "Has of what was dropped", s.Has(1<<32), false)
	l := s.IDs()
	l[0] = 77
	want(t, "IDs after a result was changed", s.IDs()[0], 0)
	if l := open(t, platter.New(0), 1).IDs(); len(l) > 0 {
		t.Errorf("IDs of nothing: %v", l)
	}
}

// P6.1: the records, and which files they go to: one file, until it would have more than limit bytes.
func TestFiles(t *testing.T) {
	a, b, c := frame(1, 7, "aaa"), frame(1, 300, "b"), frame(2, 7, "")
	want(t, "a frame's length", len(a), seal.Head+1+1+4)
	for _, limit := range []int{len(a) + len(b), len(a) + len(b) + 1, len(a) + len(b) + len(c) - 1} {
		d := platter.New(1000)
		s := open(t, d, limit)
		must(t, s.Put(7, "aaa"))
		wantFiles(t, "Put", d, "seg-0000001", a)
		must(t, s.Put(300, "b"))
		wantFiles(t, "Put", d, "seg-0000001", a+b)
		must(t, s.Drop(7))
		wantFiles(t, "Drop", d, "seg-0000001", a+b, "seg-0000002", c)
		must(t, s.Drop(300))
		wantFiles(t, "Drop", d, "seg-0000001", a+b, "seg-0000002", c+frame(2, 300, ""))
	}
	for _, limit := range []int{1, 0, -1, math.MinInt, len(c), len(a) + len(b) - 1} {
		d := platter.New(1000)
		s := open(t, d, limit)
		must(t, s.Put(7, "aaa"), s.Put(300, "b"), s.Sync())
		wantFiles(t, "a record each", d, "seg-0000001", a, "seg-0000002", b)
		s = open(t, d, limit)
		must(t, s.Drop(7))
		wantFiles(t, "a record each", d, "seg-0000001", a, "seg-0000002", b, "seg-0000003", c)
	}
	d := platter.New(1000)
	s := open(t, d, math.MaxInt)
	must(t, s.Put(7, "aaa"), s.Put(300, "b"), s.Drop(7))
	wantFiles(t, "no limit", d, "seg-0000001", a+b+c)
}

// P6.1: after Open changes go to a new file, after the greatest one, and no file is there before its first record.
func TestFileAfterOpen(t *testing.T) {
	a, b := frame(1, 1, "a"), frame(1, 2, "b")
	d := disk(t, chunk.Name(3), a, chunk.Name(41), "", "other", "x")
	s := open(t, d, 1000)
	wantFiles(t, "Open", d, "other", "x", chunk.Name(3), a, chunk.Name(41), "")
	must(t, s.Put(2, "b"))
	wantFiles(t, "Put", d, "other", "x", chunk.Name(3), a, chunk.Name(41), "", chunk.Name(42), b)
	wantChunks(t, "Put", s, d, "1=a 2=b")
	must(t, s.Compact())
	compacted := frame(3, 2, "") + a + b
	wantFiles(t, "Compact", d, "other", "x", chunk.Name(43), compacted)
	must(t, s.Drop(1))
	wantFiles(t, "Drop", d, "other", "x", chunk.Name(43), compacted, chunk.Name(44), frame(2, 1, ""))
	wantChunks(t, "Drop", s, d, "2=b")
	must(t, s.Compact(), s.Drop(2), s.Compact())
	wantChunks(t, "nothing is left", s, d, "")
	names, _ := d.Names()
	want(t, "files", len(names), 2)
	text, e := d.Read(names[1])
	want(t, "the last file", text, frame(3, 0, ""))
	must(t, e, s.Put(9, "z"), s.Sync())
	d.Crash(nil)
	wantChunks(t, "Put after all", s, d, "9=z")
	last := disk(t, chunk.Name(9999999), a)
	s = open(t, last, 1)
	wantChunks(t, "the last number", s, last, "1=a")
	if s.Put(2, "b") == api.OK {
		t.Error("there is no number for another file")
	}
	wantChunks(t, "the last number", s, last, "1=a")
}

// P6.1: only files whose names are as the chapter says are the store's.
func TestStrangeNames(t *testing.T) {
	a := frame(1, 1, "a")
	var l []string
	for _, name := range []string{
		"seg-0000000", "seg-000001", "seg-00000001", "seg-+000001", "seg--000001", "seg-1", "seg-", "seg", "seg-000000x", "seg-00000 1",
		"Seg-0000001", "seg_0000001", "0000001", "seg-0000001 ", " seg-0000001", "seg-0x00001", "seg-0_00001", "seg-10000000", "seg-seg-0000001", "seg-000000\xd9\xa1", "1",
	} {
		l = append(l, name, a)
	}
	d := disk(t, l...)
	s := open(t, d, 1000)
	wantChunks(t, "strange names", s, d, "")
	must(t, s.Put(2, "b"))
	text, e := d.Read("seg-0000001")
	want(t, "the first file", text, frame(1, 2, "b"))
	must(t, e, s.Compact())
	names, _ := d.Names()
	want(t, "strange names stay", len(names), len(l)/2+1)
	wantChunks(t, "strange names", s, d, "2=b")
}

// P6.1: the contents of files, as the chapter says it, whoever wrote them.
func TestApply(t *testing.T) {
	a, b, c := frame(1, 1, "a"), frame(1, 2, "b"), frame(1, 3, "c")
	drop := frame(2, 1, "")
	var e wire.Enc
	left := seal.Frame(e.U(1, 2).S("b").U(0).Bytes())
	var short wire.Enc
	cut := seal.Frame(short.U(1, 2).Bytes())
	spoilt := b[:len(b)-1] + "!"
	long := strings.Repeat("l", api.MaxBlob)
	for i, x := range []struct {
		files []string
		want  string
	}{
		{[]string{a + b + drop + c}, "2=b 3=c"},
		{[]string{a + b, drop + c}, "2=b 3=c"},
		{[]string{"", a, "", b}, "1=a 2=b"},
		{[]string{frame(1, 0, "") + frame(1, math.MaxUint64, long)}, "0= 18446744073709551615=" + long},
		{[]string{drop + a + drop + drop + a}, "1=a"},
		{[]string{a + frame(1, 1, "again")}, "1=again"},
		// bytes of kinds 2 and 3 don't matter
		{[]string{a + b + frame(2, 1, "xyz")}, "2=b"},
		{[]string{a + b + frame(2, 1, long+"l")}, "2=b"},
		{[]string{a + frame(3, 1, "xyz") + b}, "2=b"},
		// a frame that is cut off or spoilt ends its file, but not the next one
		{[]string{a + b[:len(b)-1], c}, "1=a 3=c"},
		{[]string{a + spoilt + drop, c}, "1=a 3=c"},
		{[]string{a + "\x00" + b, c}, "1=a 3=c"},
		{[]string{"garbage", c}, "3=c"},
		// so does one that is not a record
		{[]string{a + frame(0, 1, "") + b, c}, "1=a 3=c"},
		{[]string{a + frame(4, 1, "") + b, c}, "1=a 3=c"},
		{[]string{a + frame(257, 1, "") + b, c}, "1=a 3=c"},
		{[]string{a + frame(math.MaxUint64, 1, "") + b, c}, "1=a 3=c"},
		{[]string{a + left + drop, c}, "1=a 3=c"},
		{[]string{a + cut + drop, c}, "1=a 3=c"},
		{[]string{a + seal.Frame("") + b, c}, "1=a 3=c"},
		{[]string{a + seal.Frame("\x80\x01\x02\x00") + b, c}, "1=a 3=c"},
		{[]string{a + frame(1, 2, long+"l") + b, c}, "1=a 3=c"},
		// kind 3 removes all chunks, if as many frames follow it in its file
		{[]string{a + frame(3, 0, "")}, ""},
		{[]string{a + frame(3, 0, "") + b}, "2=b"},
		{[]string{a, frame(3, 2, "") + b + c}, "2=b 3=c"},
		{[]string{a, frame(3, 1, "") + b + c}, "2=b 3=c"},
		{[]string{a, frame(3, 1, "") + b, c}, "2=b 3=c"},
		{[]string{a, frame(3, 3, "") + b + c}, "1=a"},
		{[]string{a, frame(3, 2, "") + b, c}, "1=a 3=c"},
		{[]string{a, frame(3, 2, "") + b + c[:len(c)-1]}, "1=a"},
		{[]string{a, frame(3, 1, "")}, "1=a"},
		{[]string{a, b + frame(3, math.MaxUint64, "") + c}, "1=a 2=b"},
		{[]string{a, b + frame(3, 1<<63, "") + c}, "1=a 2=b"},
		{[]string{a, frame(3, 2, "") + b + frame(9, 0, "") + c}, "2=b"},
		{[]string{a, frame(3, 2, "") + b + frame(2, 2, "") + c}, "3=c"},
		{[]string{a, frame(3, 1, "") + b + frame(3, 1, "") + c}, "3=c"},
		{[]string{a, frame(3, 1, "") + b + frame(3, 2, "") + c}, "2=b"},
	} {
		var l []string
		for n, text := range x.files {
			l = append(l, chunk.Name(n+9), text) // from the ninth to the tenth one, and so on
		}
		d := disk(t, l...)
		s := open(t, d, 100)
		what := fmt.Sprint("case ", i)
		wantChunks(t, what, s, d, x.want)
		wantFiles(t, what, d, l...)
		must(t, s.Compact())
		wantChunks(t, what+", compacted", s, d, x.want)
	}
}

// calls are those that use the disk, with arguments that are otherwise in order.
var calls = []struct {
	name string
	call func(s *chunk.Store) api.Errno
}{
	{"Put", func(s *chunk.Store) api.Errno { return s.Put(9, "z") }},
	{"Put to a new file", func(s *chunk.Store) api.Errno { return s.Put(9, strings.Repeat("z", 100)) }},
	{"Drop", func(s *chunk.Store) api.Errno { return s.Drop(1) }},
	{"Get", func(s *chunk.Store) api.Errno {
		text, e := s.Get(1)
		if e != api.OK && text != "" {
			return -1
		}
		return e
	}},
	{"Sync", (*chunk.Store).Sync},
	{"Compact", (*chunk.Store).Compact},
}

// P6.1: a call returns the error of the disk; what it would have done is not done.
func TestDiskErrors(t *testing.T) {
	for _, c := range calls {
		for _, lost := range []bool{false, true} {
			d := platter.New(1000)
			s := open(t, d, 60)
			must(t, s.Put(1, "a"), s.Put(2, "b"), s.Sync())
			e := api.ErrIO
			d.Fail(0)
			if lost {
				d.Lose()
				e = api.ErrLost
			}
			want(t, c.name, c.call(s), e)
			want(t, c.name+": Has", s.Has(1) && s.Has(2) && !s.Has(9), true)
			if !lost {
				wantChunks(t, c.name, s, d, "1=a 2=b")
			}
		}
	}
	for n := range 3 {
		d := disk(t, chunk.Name(1), frame(1, 1, "a"), chunk.Name(2), frame(1, 2, "b"))
		d.Fail(n)
		s, e := chunk.Open(d, 100)
		want(t, "Open", e, api.ErrIO)
		want(t, "Open", s, nil)
		wantChunks(t, "Open again", open(t, d, 100), d, "1=a 2=b")
		d.Lose()
		s, e = chunk.Open(d, 100)
		want(t, "Open of a lost disk", e, api.ErrLost)
		want(t, "Open of a lost disk", s, nil)
	}
}

// P6.1: the errors of the chunk come before those of the disk, which is not asked then.
func TestErrorsInOrder(t *testing.T) {
	d := platter.New(1000)
	s := open(t, d, 100)
	must(t, s.Put(1, "a"), s.Sync())
	d.Lose()
	want(t, "Put of too many bytes", s.Put(2, strings.Repeat("x", api.MaxBlob+1)), api.ErrBig)
	want(t, "Put again", s.Put(1, "b"), api.ErrThere)
	want(t, "Drop of nothing", s.Drop(2), api.ErrNone)
	_, e := s.Get(2)
	want(t, "Get of nothing", e, api.ErrNone)
	want(t, "Has", s.Has(1), true)
	if l := s.IDs(); !slices.Equal(l, []uint64{1}) {
		t.Errorf("IDs: %v", l)
	}
}

// P6.1: without space a change is not made, and the store is used further.
func TestFull(t *testing.T) {
	a := frame(1, 1, "aaaa")
	for _, limit := range []int{1, 1000} {
		d := platter.New(2*len(a) + seal.Head + 2)
		s := open(t, d, limit)
		must(t, s.Put(1, "aaaa"), s.Put(2, "bbbb"))
		for range 2 {
			want(t, "Put without space", s.Put(3, ""), api.ErrFull)
			want(t, "Drop without space", s.Drop(2), api.ErrFull)
			want(t, "Compact without space", s.Compact(), api.ErrFull)
			wantChunks(t, "no space", s, d, "1=aaaa 2=bbbb")
		}
		must(t, d.Give(1))
		want(t, "Drop with space", s.Drop(2), api.OK)
		wantChunks(t, "Drop with space", s, d, "1=aaaa")
		want(t, "Put without space again", s.Put(2, ""), api.ErrFull)
		must(t, s.Sync(), d.Give(1))
		d.Crash(nil)
		wantChunks(t, "Crash", s, d, "1=aaaa")
		wantChunks(t, "Crash", open(t, d, limit), d, "1=aaaa")
	}
}

// P6.1, P6.2: a Compact that finds no space leaves nothing of its file behind; otherwise later records would count as its.
func TestCompactWithoutSpace(t *testing.T) {
	for more := range 70 {
		d := platter.New(150)
		s := open(t, d, 1000)
		must(t, s.Put(1, "aaaa"), s.Put(2, "bbbb"), s.Put(3, "cccc"), d.Take(70-more))
		e := s.Compact()
		if e != api.ErrFull && e != api.OK {
			t.Fatalf("Compact: %d", e)
		}
		names, _ := d.Names()
		want(t, "one file", len(names), 1)
		must(t, d.Give(70-more))
		wantChunks(t, "Compact", s, d, "1=aaaa 2=bbbb 3=cccc")
		must(t, s.Drop(2), s.Put(4, ""), s.Drop(1))
		wantChunks(t, "used further", s, d, "3=cccc 4=")
		must(t, s.Sync())
		d.Crash(nil)
		wantChunks(t, "Crash", open(t, d, 1000), d, "3=cccc 4=")
	}
}
