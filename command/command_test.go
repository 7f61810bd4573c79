package command_test

import (
	"encoding/hex"
	"fmt"
	"math"
	"slices"
	"strings"
	"testing"

	"glacier/api"
	"glacier/command"
	"glacier/wire"
)

func want[T comparable](t *testing.T, what string, got, want T) {
	t.Helper()
	if got != want {
		t.Errorf("%s: %#v, want %#v", what, got, want)
	}
}

// tell is a command as text, in which a nil list of disks is like an empty one.
func tell(c command.Command) string {
	return fmt.Sprintf("%d %d/%d %q %d %d %d %v %d %d/%d", c.Kind, c.Client, c.Seq, c.Name, c.Blob, c.Size, c.Sum, c.Disks, c.Pool, c.Vol, c.At)
}

// nothing is the zero command.
var nothing = tell(command.Command{})

func wantRead(t *testing.T, what, s string, c command.Command) {
	t.Helper()
	got, e := command.Read(s)
	want(t, what+": error", e, api.OK)
	want(t, what, tell(got), tell(c))
}

// wantError compares Read's error, with which there is no command.
func wantError(t *testing.T, what, s string, errno api.Errno) {
	t.Helper()
	c, e := command.Read(s)
	want(t, what+": error", e, errno)
	want(t, what, tell(c), nothing)
}

func bytesOf(t *testing.T, code string) string {
	t.Helper()
	b, err := hex.DecodeString(strings.ReplaceAll(code, " ", ""))
	if err != nil {
		t.Fatal(err)
	}
	return string(b)
}

const most = 1 << 30

var (
	example = command.Command{Kind: command.Put, Client: 1, Seq: 1, Name: "a", Blob: 7, Size: 1, Disks: []int{0, 2}}
	least   = command.Command{Kind: command.Put}
	full    = command.Command{command.Untape, most, most, strings.Repeat("\xff", api.MaxName), math.MaxUint64, api.MaxBlob, math.MaxUint32, []int{0, 1, 2, 3, 4, 5}, 1, 11, most}
)

// P12.1: the kinds have their numbers.
func TestKinds(t *testing.T) {
	for i, kind := range []int{command.Put, command.Get, command.Delete, command.List, command.Stat, command.Unpin, command.Spread, command.Taped, command.Free, command.Forget, command.Close, command.Erase, command.Erased, command.Untape} {
		want(t, "kind", kind, i+1)
	}
	want(t, "LastOne", command.LastOne, 14)
}

// P12.1: the encodings of commands, byte by byte.
func TestWrite(t *testing.T) {
	for _, c := range []struct {
		what string
		c    command.Command
		code string
	}{
		{"the chapter's example", example, "01 01 01 0161 07 01 00 020002 00 00 00"},
		{"the least command", least, "01 00 00 00 00 00 00 00 00 00 00"},
		{"each field on its own", command.Command{command.Taped, 2, 3, "bc", 4, 5, 6, []int{1}, 0, 7, 8}, "08 02 03 026263 04 05 06 0101 00 07 08"},
		{"the greatest command", full, "0e 8480808000 8480808000 20" + strings.Repeat("ff", 32) + "81ffffffffffffffff7f 9f20 8fffffff7f 06000102030405 01 0b 8480808000"},
	} {
		s := bytesOf(t, c.code)
		want(t, c.what, hex.EncodeToString([]byte(command.Write(c.c))), hex.EncodeToString([]byte(s)))
		want(t, c.what+": Good", c.c.Good(), true)
		wantRead(t, c.what, s, c.c)
	}
}

// fault is a command with one field that is not valid.
type fault struct {
	what   string
	change func(c *command.Command)
}

var faults = []fault{
	{"kind 0", func(c *command.Command) { c.Kind = 0 }},
	{"kind 15", func(c *command.Command) { c.Kind = 15 }},
	{"kind -1", func(c *command.Command) { c.Kind = -1 }},
	{"the least kind", func(c *command.Command) { c.Kind = math.MinInt }},
	{"the greatest kind", func(c *command.Command) { c.Kind = math.MaxInt }},
	{"client -1", func(c *command.Command) { c.Client = -1 }},
	{"client 2^30 + 1", func(c *command.Command) { c.Client = most + 1 }},
	{"the least client", func(c *command.Command) { c.Client = math.MinInt }},
	{"sequence number -1", func(c *command.Command) { c.Seq = -1 }},
	{"sequence number 2^30 + 1", func(c *command.Command) { c.Seq = most + 1 }},
	{"a name of 33 bytes", func(c *command.Command) { c.Name = strings.Repeat("n", 33) }},
	{"size -1", func(c *command.Command) { c.Size = -1 }},
	{"size 4001", func(c *command.Command) { c.Size = 4001 }},
	{"the least size", func(c *command.Command) { c.Size = math.MinInt }},
	{"disk -1", func(c *command.Command) { c.Disks = []int{-1} }},
	{"disk -1 and others", func(c *command.Command) { c.Disks = []int{-1, 2, 3} }},
	{"disk 6", func(c *command.Command) { c.Disks = []int{6} }},
	{"disk 6 and others", func(c *command.Command) { c.Disks = []int{0, 5, 6} }},
	{"a disk twice", func(c *command.Command) { c.Disks = []int{2, 2} }},
	{"the last disk twice", func(c *command.Command) { c.Disks = []int{0, 1, 5, 5} }},
	{"disks in descending order", func(c *command.Command) { c.Disks = []int{1, 0} }},
	{"disks, the last ones in descending order", func(c *command.Command) { c.Disks = []int{0, 1, 5, 4} }},
	{"seven disks", func(c *command.Command) { c.Disks = []int{0, 1, 2, 3, 4, 5, 6} }},
	{"seven disks, one of them twice", func(c *command.Command) { c.Disks = []int{0, 1, 2, 3, 4, 5, 5} }},
	{"pool -1", func(c *command.Command) { c.Pool = -1 }},
	{"pool 2", func(c *command.Command) { c.Pool = 2 }},
	{"volume -1", func(c *command.Command) { c.Vol = -1 }},
	{"volume 12", func(c *command.Command) { c.Vol = 12 }},
	{"block -1", func(c *command.Command) { c.At = -1 }},
	{"block 2^30 + 1", func(c *command.Command) { c.At = most + 1 }},
}

// P12.1: a command is Good unless one of its fields is not valid, of whichever kind it is.
func TestGood(t *testing.T) {
	want(t, "Good of the zero command", command.Command{}.Good(), false)
	for kind := command.Put; kind <= command.LastOne; kind++ {
		for _, c := range []command.Command{least, full, example} {
			c.Kind = kind
			want(t, "Good of "+tell(c), c.Good(), true)
			for _, f := range faults {
				bad := c
				f.change(&bad)
				want(t, "Good with "+f.what+": "+tell(bad), bad.Good(), false)
			}
		}
	}
	empty := least
	empty.Disks = []int{}
	want(t, "Good with an empty list", empty.Good(), true)
}

// P12.1: each set of disks is valid in ascending order only.
func TestGoodDisks(t *testing.T) {
	for n := range 8 * 8 * 8 {
		a, b, c := n/64-1, n/8%8-1, n%8-1
		x := example
		x.Disks = []int{a, b, c}
		want(t, tell(x), x.Good(), a >= 0 && a < b && b < c && c <= 5)
	}
}

// P12.2: what Write returns for a command that is not Good is not that of another one.
func TestWriteOfNoCommand(t *testing.T) {
	for _, c := range []command.Command{least, full, example} {
		for _, f := range faults {
			bad := c
			f.change(&bad)
			got, e := command.Read(command.Write(bad))
			if e == api.OK || tell(got) != nothing {
				t.Errorf("%s: %s, error %d", f.what, tell(got), e)
			}
		}
	}
}

// fields is the encoding of the example, a string for each field; the list of disks is one of them.
func fields() []string {
	return []string{"\x01", "\x01", "\x01", "\x01a", "\x07", "\x01", "\x00", "\x02\x00\x02", "\x00", "\x00", "\x00"}
}

// with returns the encoding of the example with other fields, of which numbers and encodings are given, one after the other.
func with(l ...any) string {
	all := fields()
	for i := 0; i < len(l); i += 2 {
		all[l[i].(int)] = l[i+1].(string)
	}
	return strings.Join(all, "")
}

func u(v uint64) string {
	var e wire.Enc
	return e.U(v).Bytes()
}

// P12.1: each error of Read.
func TestReadErrors(t *testing.T) {
	list := func(l ...int) string {
		var e wire.Enc
		return e.List(l...).Bytes()
	}
	for _, c := range []struct {
		what, s string
		e       api.Errno
	}{
		{"nothing", "", api.ErrEnd},
		{"kind 0", with(0, "\x00"), api.ErrForm},
		{"kind 15", with(0, "\x0f"), api.ErrBig},
		{"kind 2^64 - 1", with(0, u(math.MaxUint64)), api.ErrBig},
		{"client 2^30 + 1", with(1, u(most+1)), api.ErrBig},
		{"client 2^63", with(1, u(1<<63)), api.ErrBig},
		{"sequence number 2^30 + 1", with(2, u(most+1)), api.ErrBig},
		{"a name of 33 bytes", with(3, "\x21"+strings.Repeat("n", 33)), api.ErrBig},
		{"a name of 33 bytes, cut off", "\x01\x01\x01\x21a", api.ErrBig},
		{"a name that is cut off", "\x01\x01\x01\x20a", api.ErrEnd},
		{"blob 2^64", with(4, "\x82\x80\x80\x80\x80\x80\x80\x80\x80\x00"), api.ErrForm},
		{"size 4001", with(5, u(4001)), api.ErrBig},
		{"checksum 2^32", with(6, u(1<<32)), api.ErrForm},
		{"checksum 2^64 - 1", with(6, u(math.MaxUint64)), api.ErrForm},
		{"checksum 2^64", with(6, "\x82\x80\x80\x80\x80\x80\x80\x80\x80\x00"), api.ErrForm},
		{"seven disks", with(7, list(0, 1, 2, 3, 4, 5, 5)), api.ErrBig},
		{"disk 6", with(7, list(6)), api.ErrBig},
		{"a disk twice", with(7, list(2, 2)), api.ErrForm},
		{"disks in descending order", with(7, list(2, 0)), api.ErrForm},
		{"disks that begin ascending", with(7, list(0, 3, 5, 4)), api.ErrForm},
		{"pool 2", with(8, "\x02"), api.ErrBig},
		{"volume 12", with(9, "\x0c"), api.ErrBig},
		{"block 2^30 + 1", with(10, u(most+1)), api.ErrBig},
		{"a byte more", with() + "\x00", api.ErrForm},
		{"another command behind it", with() + with(), api.ErrForm},
	} {
		wantError(t, c.what, c.s, c.e)
	}
	wantRead(t, "no fault", with(), example)
}

// P12.1: the first error of the decoder comes ahead of the others, wherever it is.
func TestReadOrder(t *testing.T) {
	for _, c := range []struct {
		what, s string
		e       api.Errno
	}{
		{"kind 15 and cut off", "\x0f", api.ErrBig},
		{"a malformed client and kind 15", with(0, "\x0f", 1, "\x80\x01"), api.ErrBig},
		{"a malformed client and a size too great", with(1, "\x80\x01", 5, u(4001)), api.ErrForm},
		{"kind 0 and a block too great", with(0, "\x00", 10, u(most+1)), api.ErrBig},
		{"kind 0 and cut off", "\x00\x01", api.ErrEnd},
		{"checksum 2^32 and pool 2", with(6, u(1<<32), 8, "\x02"), api.ErrBig},
		{"checksum 2^32 and cut off", strings.TrimSuffix(with(6, u(1<<32)), "\x00"), api.ErrEnd},
		{"disks in descending order and volume 12", with(7, "\x02\x02\x00", 9, "\x0c"), api.ErrBig},
		{"volume 12 and a byte more", with(9, "\x0c") + "\x00", api.ErrBig},
		{"kind 0 and a byte more", with(0, "\x00") + "\x00", api.ErrForm},
	} {
		wantError(t, c.what, c.s, c.e)
	}
}

// P12.1, P12.2: a command that is cut off anywhere, or has a number of more bytes than it needs, is none.
func TestReadSpoilt(t *testing.T) {
	for _, c := range []command.Command{least, full, example} {
		s := command.Write(c)
		for n := range len(s) {
			wantError(t, fmt.Sprintf("%x", s[:n]), s[:n], api.ErrEnd)
		}
	}
	for n, field := range fields() {
		long := with(n, "\x80"+field)
		wantError(t, fmt.Sprintf("%x", long), long, api.ErrForm)
	}
}

// P12.1: the commands of clients are those of the kinds 1 to 5, whoever sends them.
func TestIsClient(t *testing.T) {
	for kind := -2; kind <= 20; kind++ {
		for _, client := range []int{-1, 0, 1} {
			c := command.Command{Kind: kind, Client: client}
			want(t, fmt.Sprint("IsClient of ", kind), c.IsClient(), kind >= 1 && kind <= 5)
		}
	}
	want(t, "IsClient of the least kind", command.Command{Kind: math.MinInt}.IsClient(), false)
	want(t, "IsClient of the greatest kind", command.Command{Kind: math.MaxInt}.IsClient(), false)
}

// P12.1: Disk returns the disks of a list in ascending order, each once.
func TestDisk(t *testing.T) {
	for _, c := range []struct{ l, disks []int }{
		{nil, nil},
		{[]int{0}, []int{0}},
		{[]int{5}, []int{5}},
		{[]int{6, -1, math.MinInt, math.MaxInt}, nil},
		{[]int{2, 0}, []int{0, 2}},
		{[]int{3, 3, 3}, []int{3}},
		{[]int{5, 4, 3, 2, 1, 0}, []int{0, 1, 2, 3, 4, 5}},
		{[]int{7, 5, -5, 1, 5, 6, 0, 1}, []int{0, 1, 5}},
	} {
		before := slices.Clone(c.l)
		got := command.Disk(c.l...)
		want(t, fmt.Sprint("Disk of ", c.l), fmt.Sprint(got), fmt.Sprint(c.disks))
		if !slices.Equal(c.l, before) {
			t.Errorf("%v became %v", before, c.l)
		}
	}
}

// K3: arguments stay as they are, and results share no memory with them.
func TestNothingIsShared(t *testing.T) {
	l := []int{0, 2, 4, 5}
	got := command.Disk(l[:2]...)
	_ = append(got, 9)
	got[0] = 9
	want(t, "an argument of Disk", fmt.Sprint(l), "[0 2 4 5]")
	c := example
	c.Disks = l[:2]
	s := command.Write(c)
	want(t, "Good", c.Good(), true)
	want(t, "the disks of a command", fmt.Sprint(l), "[0 2 4 5]")
	l[0] = 1
	wantRead(t, "what was written", s, example)
	one, _ := command.Read(s)
	two, _ := command.Read(s)
	one.Disks[0] = 9
	want(t, "another result of Read", tell(two), tell(example))
}
