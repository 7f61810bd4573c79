package chunk_test

import (
	"fmt"
	"strings"
	"testing"

	"glacier/api"
	"glacier/chunk"
	"glacier/platter"
	"glacier/seal"
)

// filled returns a disk whose chunks are in three files, the first of which was compacted, and what they are.
func filled(t *testing.T) (*platter.Disk, *chunk.Store, map[uint64]string) {
	t.Helper()
	d := platter.New(1 << 20)
	s := open(t, d, 40)
	must(t, s.Put(1, "a"), s.Put(2, "bb"), s.Put(3, ""), s.Drop(1), s.Compact())
	must(t, s.Put(300, "cccccccc"), s.Put(5, "dd"), s.Drop(2), s.Put(6, "\x00"), s.Sync())
	names, _ := d.Names()
	want(t, "files", len(names), 3)
	return d, s, map[uint64]string{3: "", 5: "dd", 6: "\x00", 300: "cccccccc"}
}

// wantRight compares what Get returns with the chunks, as far as it is no error, and returns the IDs of the others.
func wantRight(t *testing.T, what string, s *chunk.Store, right map[uint64]string) []uint64 {
	t.Helper()
	var wrong []uint64
	for _, id := range s.IDs() {
		text, e := s.Get(id)
		if e == api.OK && text != right[id] || e != api.OK && text != "" {
			t.Errorf("%s: Get %d: %q, %d, want %q", what, id, text, e, right[id])
		}
		if e != api.OK {
			want(t, what, e, api.ErrSum)
			wrong = append(wrong, id)
		}
	}
	return wrong
}

// owner returns the chunk whose record has a byte of a file, or 0.
func owner(text string, at int, right map[uint64]string) uint64 {
	for id, data := range right {
		f := frame(1, id, data)
		if from := strings.Index(text, f); from >= 0 && at >= from && at < from+len(f) {
			return id
		}
	}
	return 0
}

// P6.3: if any byte is spoilt, Get of its chunk returns ErrSum, and that of the others their bytes; once the byte is as it was, that chunk's are returned, too.
func TestSpoil(t *testing.T) {
	d, s, right := filled(t)
	names, _ := d.Names()
	spoilt := 0
	for _, name := range names {
		text, _ := d.Read(name)
		for at := range len(text) {
			for _, by := range []byte{1, 2, 0x80, 0xff} {
				what := fmt.Sprintf("%s at %d by %d", name, at, by)
				want(t, what, d.Spoil(name, at, by), true)
				wrong := wantRight(t, what, s, right)
				if id := owner(text, at, right); id == 0 {
					want(t, what, len(wrong), 0)
				} else if spoilt++; len(wrong) != 1 || wrong[0] != id {
					t.Errorf("%s: %v can't be read, want %d", what, wrong, id)
				}
				want(t, what, d.Spoil(name, at, by), true)
				want(t, what, len(wantRight(t, what, s, right)), 0)
			}
		}
	}
	if spoilt < 100 {
		t.Errorf("only %d bytes of chunks were spoilt", spoilt)
	}
}

// P6.3: a store that is opened after a byte was spoilt returns no wrong bytes either.
func TestOpenSpoilt(t *testing.T) {
	d, _, right := filled(t)
	right[2] = "bb" // if the record of its Drop is spoilt
	names, _ := d.Names()
	for _, name := range names {
		text, _ := d.Read(name)
		for at := range len(text) {
			for _, by := range []byte{1, 0x80, 0xff} {
				what := fmt.Sprintf("%s at %d by %d", name, at, by)
				d.Spoil(name, at, by)
				s := open(t, d, 60)
				want(t, what, len(wantRight(t, what, s, right)), 0)
				d.Spoil(name, at, by)
			}
		}
	}
}

// P6.3: the record has to be where and as it was written, not just be one.
func TestReplaced(t *testing.T) {
	d := platter.New(1000)
	s := open(t, d, 1000)
	must(t, s.Put(1, "aa"), s.Put(2, "bb"), s.Sync())
	a, b := frame(1, 1, "aa"), frame(1, 2, "bb")
	name := chunk.Name(1)
	for _, c := range []struct {
		what, text string
		a, b       api.Errno
	}{
		{"the same", a + b, api.OK, api.OK},
		{"more behind", a + b + "more", api.OK, api.OK},
		{"the second one is cut off", a + b[:len(b)-1], api.OK, api.ErrSum},
		{"only its head", a + b[:8], api.OK, api.ErrSum},
		{"the second one is missing", a, api.OK, api.ErrSum},
		{"less than the first one", a[:3], api.ErrSum, api.ErrSum},
		{"nothing", "", api.ErrSum, api.ErrSum},
		{"exchanged", b + a, api.ErrSum, api.ErrSum},
		{"moved", "x" + a + b, api.ErrSum, api.ErrSum},
		{"other bytes, as many", frame(1, 1, "aA") + b, api.ErrSum, api.OK},
		{"other bytes, fewer", a + frame(1, 2, "b"), api.OK, api.ErrSum},
		{"another kind", a + frame(2, 2, "bb"), api.OK, api.ErrSum},
		{"another chunk", a + frame(1, 3, "bb"), api.OK, api.ErrSum},
		{"no record", a + frame(0, 2, "bb"), api.OK, api.ErrSum},
	} {
		must(t, d.Write(name, c.text))
		text, e := s.Get(1)
		want(t, c.what, e, c.a)
		want(t, c.what, text == "aa", e == api.OK)
		text, e = s.Get(2)
		want(t, c.what, e, c.b)
		want(t, c.what, text == "bb", e == api.OK)
	}
	must(t, d.Remove(name))
	_, e := s.Get(1)
	want(t, "the disk's error", e, api.ErrNone)
}

// P6.1, P6.3: Compact of a spoilt chunk returns ErrSum and changes nothing; the store is used further.
func TestCompactSpoilt(t *testing.T) {
	d := platter.New(1000)
	s := open(t, d, 1)
	must(t, s.Put(1, "a"), s.Put(2, "b"), s.Put(3, "c"), s.Sync())
	want(t, "Spoil", d.Spoil(chunk.Name(2), 9, 1), true)
	want(t, "Compact", s.Compact(), api.ErrSum)
	names, _ := d.Names()
	want(t, "files", len(names), 3)
	_, e := s.Get(2)
	want(t, "Get", e, api.ErrSum)
	want(t, "Has", s.Has(2), true)
	must(t, s.Put(4, "d"), s.Drop(2))
	wantChunks(t, "the spoilt chunk is dropped", s, d, "1=a 3=c 4=d")
	must(t, s.Compact())
	wantChunks(t, "compacted", s, d, "1=a 3=c 4=d")
	d.Crash(nil)
	wantChunks(t, "compacted", open(t, d, 1), d, "1=a 3=c 4=d")
}

// P6.3: a checksum doesn't notice some changes of five bytes or more, but then there is no such record.
func TestSpoilUnnoticed(t *testing.T) {
	d := platter.New(1000)
	s := open(t, d, 1000)
	must(t, s.Put(1, "abcdef"), s.Sync())
	text, _ := d.Read(chunk.Name(1))
	for i, by := range []byte{0x41, 0x06, 0x71, 0xdb, 0x01} { // the checksum's polynomial
		want(t, "Spoil", d.Spoil(chunk.Name(1), seal.Head+i, by), true)
	}
	spoilt, _ := d.Read(chunk.Name(1))
	_, e := seal.Only(spoilt)
	want(t, "the checksum", e, api.OK)
	want(t, "the bytes", spoilt != text, true)
	_, e = s.Get(1)
	want(t, "Get", e, api.ErrSum)
	wantChunks(t, "Open", open(t, d, 1000), d, "")
}
