package catalog_test

import (
	"encoding/hex"
	"fmt"
	"math"
	"math/rand"
	"strings"
	"testing"

	"glacier/api"
	"glacier/catalog"
	"glacier/command"
	"glacier/wire"
)

func enc() *wire.Enc {
	return &wire.Enc{}
}

func bytesOf(t *testing.T, code string) string {
	t.Helper()
	b, err := hex.DecodeString(strings.ReplaceAll(code, " ", ""))
	if err != nil {
		t.Fatal(err)
	}
	return string(b)
}

// wantError compares Read's error, with which there is no catalog.
func wantError(t *testing.T, what, s string, l ...api.Errno) {
	t.Helper()
	c, e := catalog.Read(s)
	for _, errno := range l {
		if e == errno && c == nil {
			return
		}
	}
	t.Errorf("%s: error %d, want one of %d; nil %t", what, e, l, c == nil)
}

// wantRead checks that s is the encoding of a catalog.
func wantRead(t *testing.T, what, s string) {
	t.Helper()
	c, e := catalog.Read(s)
	if e != api.OK {
		t.Errorf("%s: error %d", what, e)
	} else if c.Write() != s {
		t.Errorf("%s: written again %x, not %x", what, c.Write(), s)
	}
}

// P13.2: the encodings of catalogs, byte by byte.
func TestWrite(t *testing.T) {
	zeros := strings.Repeat("00 00 00", 12)
	want(t, "an empty catalog", hex.EncodeToString([]byte(catalog.New().Write())), "00"+strings.ReplaceAll(zeros, " ", ""))
	c := with(t, put(300, "bc", 4000, math.MaxUint32, 1, 5), put(7, "a", 5, 6, 0), taped(7, 11, 200), named(command.Get, "a"))
	apply(t, c, taped(300, 4, 1<<30), named(command.Get, "a"), named(command.Delete, "a"))
	apply(t, c, turn(command.Close, 0), turn(command.Erase, 1), turn(command.Erased, 1), turn(command.Erase, 2), turn(command.Close, 11))
	first := "07 0161 00 05 06 0100 00 00 00 01 0b 8148 02"
	second := "822c 026263 01 9f20 8fffffff7f 020105 01 04 8480808000 00 00 00 00"
	vols := "010000 000001 010100" + strings.Repeat("000000", 8) + "010000"
	s := bytesOf(t, "02"+first+second+vols)
	want(t, "Write", hex.EncodeToString([]byte(c.Write())), hex.EncodeToString([]byte(s)))
	wantRead(t, "Read", s)
	again := reread(t, c)
	wantBlobs(t, "Read", again, `7 "a" 5 6; [0]; `+none+" 11/200; 2 dead", `300 "bc" 4000 4294967295; [1 5]; 4/1073741824 `+none+"; 0")
	wantVols(t, "Read", again, "0 {true false 0}", "1 {false false 1}", "2 {true true 0}", "11 {true false 0}")
}

// fields is the encoding of a catalog with two blobs, of which the second one is dead, a string for each field of theirs; and then one for all volumes.
func fields() []string {
	return []string{
		"\x02",
		"\x07", "\x01a", "\x01", "\x05", "\x06", "\x02\x00\x02", "\x01", "\x02", "\x03", "\x00", "\x00", "\x00", "\x04",
		"\x09", "\x01a", "\x00", "\x01", "\x02", "\x00", "\x00", "\x00", "\x00", "\x01", "\x03", "\x00", "\x00",
		strings.Repeat("\x00\x00\x00", 12),
	}
}

// The fields of a blob, from its ID on.
const (
	first  = 1
	second = 14
	name   = 1
	alive  = 2
	size   = 3
	sum    = 4
	disks  = 5
	copy0  = 6
	copy1  = 9
	pins   = 12
	vols   = 27
)

// changed returns the encoding with other fields, of which numbers and encodings are given, one after the other.
func changed(l ...any) string {
	all := fields()
	for i := 0; i < len(l); i += 2 {
		all[l[i].(int)] = l[i+1].(string)
	}
	return strings.Join(all, "")
}

// volumes returns the encoding of volumes, of which one has another one.
func volumes(vol int, s string) string {
	zeros := strings.Repeat("\x00\x00\x00", 12)
	return zeros[:3*vol] + s + zeros[3*vol+3:]
}

func u(v uint64) string {
	return enc().U(v).Bytes()
}

func list(l ...int) string {
	return enc().List(l...).Bytes()
}

func text(n int) string {
	return enc().S(strings.Repeat("n", n)).Bytes()
}

const most = 1 << 30

// P13.2: the greatest values, and what is unusual but no fault.
func TestReadLimits(t *testing.T) {
	wantRead(t, "no change", changed())
	for _, blob := range []int{first, second} {
		for what, s := range map[string]string{
			"a name of 32 bytes":   changed(blob+name, text(32)),
			"size 0":               changed(blob+size, "\x00"),
			"size 4000":            changed(blob+size, u(4000)),
			"checksum 2^32 - 1":    changed(blob+sum, u(math.MaxUint32)),
			"all disks":            changed(blob+disks, list(0, 1, 2, 3, 4, 5)),
			"no disks":             changed(blob+disks, list()),
			"volume 10":            changed(blob+copy0, "\x01", blob+copy0+1, "\x0a"),
			"volume 0, block 0":    changed(blob+copy0, "\x01", blob+copy0+1, "\x00", blob+copy0+2, "\x00"),
			"volume 11":            changed(blob+copy1, "\x01", blob+copy1+1, "\x0b"),
			"block 2^30 in pool 0": changed(blob+copy0, "\x01", blob+copy0+2, u(most)),
			"block 2^30 in pool 1": changed(blob+copy1, "\x01", blob+copy1+1, "\x03", blob+copy1+2, u(most)),
			"pin count 2^30":       changed(blob+pins, u(most)),
		} {
			wantRead(t, fmt.Sprint(what, " of the blob at ", blob), s)
		}
	}
	wantRead(t, "ID 1", changed(first, "\x01"))
	wantRead(t, "ID 2^64 - 1", changed(second, u(math.MaxUint64)))
	wantRead(t, "a dead blob without a name", changed(second+name, "\x00"))
	wantRead(t, "a dead blob with the name of another one", changed(second+name, "\x01a"))
	wantRead(t, "the first blob dead", changed(first+alive, "\x00"))
	wantRead(t, "both blobs dead", changed(first+alive, "\x00", second+alive, "\x00"))
	wantRead(t, "both blobs not dead", changed(second+alive, "\x01", second+name, "\x01b"))
	wantRead(t, "the first one dead, the second one not", changed(first+alive, "\x00", second+alive, "\x01"))
	for vol := range 12 {
		for _, s := range []string{"\x00\x00" + u(most), "\x01\x01\x05", "\x01\x00\x00"} {
			wantRead(t, fmt.Sprint("volume ", vol), changed(vols, volumes(vol, s)))
		}
	}
}

// P13.2: each fault of a blob, at the first blob and at the second one.
func TestReadFaultsOfBlobs(t *testing.T) {
	const form, big = api.ErrForm, api.ErrBig
	for _, blob := range []int{first, second} {
		for what, c := range map[string]struct {
			s string
			e api.Errno
		}{
			"ID 0":                             {changed(blob, "\x00"), form},
			"ID 2^64":                          {changed(blob, "\x82\x80\x80\x80\x80\x80\x80\x80\x80\x00"), form},
			"a name of 33 bytes":               {changed(blob+name, text(33)), big},
			"no name":                          {changed(blob+name, "\x00", blob+alive, "\x01"), form},
			"neither dead nor not":             {changed(blob+alive, "\x02"), form},
			"size 4001":                        {changed(blob+size, u(4001)), big},
			"checksum 2^32":                    {changed(blob+sum, u(1<<32)), form},
			"checksum 2^64 - 1":                {changed(blob+sum, u(math.MaxUint64)), form},
			"seven disks":                      {changed(blob+disks, list(0, 1, 2, 3, 4, 5, 5)), big},
			"disk 6":                           {changed(blob+disks, list(6)), big},
			"a disk twice":                     {changed(blob+disks, list(3, 3)), form},
			"disks in descending order":        {changed(blob+disks, list(0, 5, 4)), form},
			"neither a copy nor none, pool 0":  {changed(blob+copy0, "\x02", blob+copy0+1, "\x00", blob+copy0+2, "\x00"), form},
			"neither a copy nor none, pool 1":  {changed(blob+copy1, "\x02", blob+copy1+1, "\x00", blob+copy1+2, "\x00"), form},
			"a copy of pool 1 in pool 0":       {changed(blob+copy0, "\x01", blob+copy0+1, "\x01"), form},
			"a copy of pool 0 in pool 1":       {changed(blob+copy1, "\x01", blob+copy1+1, "\x00"), form},
			"volume 12":                        {changed(blob+copy0, "\x01", blob+copy0+1, "\x0c"), big},
			"volume 13":                        {changed(blob+copy1, "\x01", blob+copy1+1, "\x0d"), big},
			"no copy on volume 2, pool 0":      {changed(blob+copy0, "\x00", blob+copy0+1, "\x02", blob+copy0+2, "\x00"), form},
			"no copy on volume 1, pool 1":      {changed(blob+copy1, "\x00", blob+copy1+1, "\x01", blob+copy1+2, "\x00"), form},
			"no copy at block 1, pool 0":       {changed(blob+copy0, "\x00", blob+copy0+1, "\x00", blob+copy0+2, "\x01"), form},
			"no copy at block 1, pool 1":       {changed(blob+copy1, "\x00", blob+copy1+1, "\x00", blob+copy1+2, "\x01"), form},
			"block 2^30 + 1 in pool 0":         {changed(blob+copy0, "\x01", blob+copy0+2, u(most+1)), big},
			"block 2^30 + 1 in pool 1":         {changed(blob+copy1, "\x01", blob+copy1+1, "\x03", blob+copy1+2, u(most+1)), big},
			"pin count 2^30 + 1":               {changed(blob+pins, u(most+1)), big},
			"pin count 2^64 - 1":               {changed(blob+pins, u(math.MaxUint64)), big},
			"an ID of more bytes than it has":  {changed(blob, "\x80\x09"), form},
			"a size of more bytes than needed": {changed(blob+size, "\x80\x01"), form},
		} {
			wantError(t, fmt.Sprint(what, ", the blob at ", blob), c.s, c.e)
		}
	}
}

// P13.2: each fault of several blobs, of volumes, and of the bytes as a whole.
func TestReadFaults(t *testing.T) {
	const form, big = api.ErrForm, api.ErrBig
	wantError(t, "the same ID twice", changed(second, "\x07"), form)
	wantError(t, "IDs in descending order", changed(second, "\x06"), form)
	wantError(t, "an ID after the greatest one", changed(first, u(math.MaxUint64), second, "\x01"), form)
	wantError(t, "a name of two blobs", changed(second+alive, "\x01"), form)
	wantError(t, "a name of two blobs, not the first one's", three([]string{"b", "a", "a"}, []bool{true, true, true}), form)
	wantError(t, "a name of two blobs, and of a dead one between them", three([]string{"a", "a", "a"}, []bool{true, false, true}), form)
	wantRead(t, "a name of three blobs, of which two are dead", three([]string{"a", "a", "a"}, []bool{false, true, false}))
	for vol := range 12 {
		wantError(t, "neither closed nor not", changed(vols, volumes(vol, "\x02\x00\x00")), form)
		wantError(t, "neither marked nor not", changed(vols, volumes(vol, "\x00\x02\x00")), form)
		wantError(t, "Gen 2^30 + 1", changed(vols, volumes(vol, "\x00\x00"+u(most+1))), big)
		wantError(t, "Gen 2^64 - 1", changed(vols, volumes(vol, "\x00\x00"+u(math.MaxUint64))), big)
		wantError(t, "Gen of more bytes than needed", changed(vols, volumes(vol, "\x00\x00\x80\x00")), form)
	}
	wantError(t, "a byte more", changed()+"\x00", form)
	wantError(t, "a volume more", changed()+"\x00\x00\x00", form)
	wantError(t, "a blob more than said", changed(0, "\x01"), form, big, api.ErrEnd)
	wantError(t, "a blob less than said", changed(0, "\x03"), form, big, api.ErrEnd)
	for _, n := range []uint64{100001, 1 << 31, math.MaxInt, math.MaxUint64} {
		wantError(t, fmt.Sprint(n, " blobs"), changed(0, u(n)), big)
		wantError(t, fmt.Sprint(n, " blobs alone"), u(n), big)
	}
	wantError(t, "100000 blobs alone", u(100000), api.ErrEnd)
}

// three returns a catalog of three blobs with these names, which are dead or not.
func three(names []string, alive []bool) string {
	e := enc().I(3)
	for i, name := range names {
		e.I(i+1).S(name).B(alive[i]).I(0, 0).List(0)
		e.B(false).I(0, 0).B(false).I(0, 0, 0)
	}
	return e.Bytes() + volumes(0, "\x00\x00\x00")
}

// P13.2: a catalog that is cut off anywhere is none.
func TestReadCutOff(t *testing.T) {
	for _, s := range []string{changed(), catalog.New().Write()} {
		for n := range len(s) {
			wantError(t, fmt.Sprintf("%x", s[:n]), s[:n], api.ErrEnd)
		}
	}
}

// P13.2: 100000 blobs can be read, and have all their names.
func TestMostBlobs(t *testing.T) {
	const n = 100000
	c := catalog.New()
	for i := range n {
		apply(t, c, put(uint64(i+1), fmt.Sprintf("%06d", n-i), i%4001, 0, i%6))
	}
	s := c.Write()
	again, e := catalog.Read(s)
	if e != api.OK {
		t.Fatalf("Read: %d", e)
	}
	want(t, "Write after Read", again.Write() == s, true)
	l := again.Apply(named(command.List, "")).Names
	want(t, "names", len(l), n)
	want(t, "the first name", l[0], "000001")
	want(t, "the last name", l[n-1], "100000")
	b, ok := again.Named("000002")
	want(t, "Named", ok, true)
	want(t, "Named", b.ID, n-1)
}

// spoilt returns s with a byte changed, inserted or removed.
func spoilt(r *rand.Rand, s string) string {
	i := r.Intn(len(s))
	b := string([]byte{byte(r.Intn(12) * r.Intn(12))})
	switch r.Intn(5) {
	case 0:
		return s[:i] + b + s[i:]
	case 1:
		return s[:i] + s[i+1:]
	case 2:
		return s[:i] + "\x80" + s[i:]
	}
	return s[:i] + b + s[i+1:]
}

// P13.2: whatever bytes are given, Read returns a catalog of which they are the only encoding, with consistent names, or an error.
func TestOneEncoding(t *testing.T) {
	r := rand.New(rand.NewSource(1))
	read := 0
	for range 300 {
		c := catalog.New()
		for range r.Intn(60) {
			c.Apply(anyCommand(r))
		}
		s := c.Write()
		for range 100 {
			bad := spoilt(r, s)
			if r.Intn(4) == 0 {
				bad = spoilt(r, bad)
			}
			c, e := catalog.Read(bad)
			if e != api.OK {
				want(t, "nil with an error", c == nil, true)
				continue
			}
			read++
			want(t, "Write", hex.EncodeToString([]byte(c.Write())), hex.EncodeToString([]byte(bad)))
			wantNames(t, c)
			if t.Failed() {
				t.Fatalf("%x, spoilt: %x", s, bad)
			}
		}
	}
	if read < 1000 {
		t.Errorf("only %d of the bytes could be read", read)
	}
}

// wantNames compares the names with those of the blobs that are not dead.
func wantNames(t *testing.T, c *catalog.Catalog) {
	t.Helper()
	alive := 0
	for _, b := range c.Blobs() {
		if b.Dead {
			continue
		}
		alive++
		got, ok := c.Named(b.Name)
		want(t, "Named "+b.Name, ok, true)
		want(t, "Named "+b.Name, tell(got), tell(b))
	}
	want(t, "names", len(c.Apply(named(command.List, "")).Names), alive)
}

// P13.2: after Read, commands have the results that the model expects of that catalog, even if no commands make such a one.
func TestCommandsAfterRead(t *testing.T) {
	r := rand.New(rand.NewSource(2))
	for range 300 {
		c := catalog.New()
		for range r.Intn(60) {
			c.Apply(anyCommand(r))
		}
		c, e := catalog.Read(spoilt(r, c.Write()))
		if e != api.OK {
			continue
		}
		m := &model{l: c.Blobs()}
		for vol := range m.vols {
			m.vols[vol] = c.Vol(vol)
		}
		for range 30 {
			x := anyCommand(r)
			want(t, fmt.Sprintf("%+v", x), told(c.Apply(x)), m.apply(x))
			want(t, "Write", c.Write(), m.write())
			if t.Failed() {
				return
			}
		}
	}
}
