package catalog_test

import (
	"fmt"
	"math"
	"strings"
	"testing"

	"glacier/api"
	"glacier/catalog"
	"glacier/command"
)

func want[T comparable](t *testing.T, what string, got, want T) {
	t.Helper()
	if got != want {
		t.Errorf("%s: %#v, want %#v", what, got, want)
	}
}

// The commands, with the fields that their kinds use. The others have values that must not matter.

func put(id uint64, name string, size int, sum uint32, disks ...int) command.Command {
	return command.Command{Kind: command.Put, Client: 1, Seq: 2, Name: name, Blob: id, Size: size, Sum: sum, Disks: disks, Pool: 1, Vol: 3, At: 4}
}

// named is a Get, a Delete, a List or a Stat.
func named(kind int, name string) command.Command {
	return command.Command{Kind: kind, Client: 1, Seq: 2, Name: name, Blob: 99, Size: 98, Sum: 97, Disks: []int{5}, Pool: 1, Vol: 3, At: 4}
}

// of is an Unpin, a Free or a Forget.
func of(kind int, id uint64) command.Command {
	return command.Command{Kind: kind, Name: "z", Blob: id, Size: 98, Sum: 97, Disks: []int{5}, Pool: 1, Vol: 3, At: 4}
}

func spread(id uint64, disks ...int) command.Command {
	return command.Command{Kind: command.Spread, Name: "z", Blob: id, Size: 98, Sum: 97, Disks: disks, Pool: 1, Vol: 3, At: 4}
}

// taped has the other pool than that of the volume, which must not matter.
func taped(id uint64, vol, at int) command.Command {
	return command.Command{Kind: command.Taped, Name: "z", Blob: id, Size: 98, Sum: 97, Disks: []int{5}, Pool: 1 - vol%2, Vol: vol, At: at}
}

func untape(id uint64, pool int) command.Command {
	return command.Command{Kind: command.Untape, Name: "z", Blob: id, Size: 98, Sum: 97, Disks: []int{5}, Pool: pool, Vol: 3, At: 4}
}

// turn is a Close, an Erase or an Erased.
func turn(kind, vol int) command.Command {
	return command.Command{Kind: kind, Name: "a", Blob: 7, Size: 98, Sum: 97, Disks: []int{5}, Pool: 1 - vol%2, Vol: vol, At: 4}
}

// with returns a catalog to which commands were applied, each of them with OK.
func with(t *testing.T, l ...command.Command) *catalog.Catalog {
	t.Helper()
	c := catalog.New()
	apply(t, c, l...)
	return c
}

func apply(t *testing.T, c *catalog.Catalog, l ...command.Command) {
	t.Helper()
	for i, x := range l {
		if r := c.Apply(x); r.Err != api.OK {
			t.Fatalf("command %d: %d", i, r.Err)
		}
	}
}

// told is a result as text, in which a nil list of names is like an empty one.
func told(r catalog.Result) string {
	return fmt.Sprintf("%d: %d %d %d %q", r.Err, r.Blob, r.Size, r.Sum, r.Names)
}

// done is the result of a command that returns nothing but OK.
const done = "0: 0 0 0 []"

// wantDone applies commands, each of which returns nothing but OK.
func wantDone(t *testing.T, what string, c *catalog.Catalog, l ...command.Command) {
	t.Helper()
	for _, x := range l {
		want(t, what, told(c.Apply(x)), done)
	}
}

// wantFail applies a command that returns nothing but an error, and changes nothing.
func wantFail(t *testing.T, what string, c *catalog.Catalog, x command.Command, e api.Errno) {
	t.Helper()
	before := c.Write()
	want(t, what, told(c.Apply(x)), fmt.Sprintf("%d: 0 0 0 []", e))
	want(t, what+": changed", c.Write() != before, false)
}

// tell is a blob as text: ID, name, size, checksum; disks; copies; pins.
func tell(b catalog.Blob) string {
	s := fmt.Sprintf("%d %q %d %d; %v;", b.ID, b.Name, b.Size, b.Sum, b.Disks)
	for _, t := range b.Copies {
		if t.There {
			s += fmt.Sprintf(" %d/%d", t.Vol, t.At)
		} else {
			s += fmt.Sprint(" ", t)
		}
	}
	s += fmt.Sprint("; ", b.Pins)
	if b.Dead {
		s += " dead"
	}
	return s
}

// none is a copy that is not there.
const none = "{false 0 0}"

// wantBlobs compares all blobs with texts.
func wantBlobs(t *testing.T, what string, c *catalog.Catalog, l ...string) {
	t.Helper()
	var got []string
	for _, b := range c.Blobs() {
		got = append(got, tell(b))
	}
	want(t, what, strings.Join(got, "\n"), strings.Join(l, "\n"))
}

// wantVols compares the volumes that are not as at first with texts, one after the other.
func wantVols(t *testing.T, what string, c *catalog.Catalog, l ...string) {
	t.Helper()
	var got []string
	for vol := range 12 {
		if v := c.Vol(vol); v != (catalog.Vol{}) {
			got = append(got, fmt.Sprint(vol, v))
		}
	}
	want(t, what, strings.Join(got, "; "), strings.Join(l, "; "))
}

// P13.1: the chapter's example.
func TestExample(t *testing.T) {
	c := with(t, put(7, "a", 5, 6, 0, 2))
	want(t, "Get", told(c.Apply(named(command.Get, "a"))), "0: 7 5 6 []")
	wantBlobs(t, "Get", c, `7 "a" 5 6; [0 2]; `+none+" "+none+"; 1")
	want(t, "Delete", told(c.Apply(named(command.Delete, "a"))), "0: 7 5 6 []")
	wantFail(t, "Forget", c, of(command.Forget, 7), api.ErrOrder)
	wantDone(t, "Unpin, Forget", c, of(command.Unpin, 7), of(command.Forget, 7))
	wantBlobs(t, "Forget", c)
}

// P13.1: a new catalog has no blobs, no names, and no volume that is closed, marked or was erased.
func TestNew(t *testing.T) {
	c := catalog.New()
	wantBlobs(t, "Blobs", c)
	wantVols(t, "Vol", c)
	want(t, "List", told(c.Apply(named(command.List, ""))), done)
	for vol := range 12 {
		n, pins := c.Live(vol)
		want(t, "Live", n, 0)
		want(t, "Live: pins", pins, 0)
	}
	apply(t, c, put(1, "a", 0, 0, 0))
	want(t, "blobs of another one", len(catalog.New().Blobs()), 0)
}

// P13.1: even volumes are in pool 0, odd ones in pool 1.
func TestPool(t *testing.T) {
	for vol := range 12 {
		want(t, fmt.Sprint("Pool of ", vol), catalog.Pool(vol), vol%2)
	}
}

// P13.1: a command that is not Good is ErrForm, of whichever kind it is and whatever else is wrong with it.
func TestBad(t *testing.T) {
	c := with(t, put(7, "a", 5, 6, 0, 2), taped(7, 2, 3), named(command.Get, "a"), turn(command.Close, 5), turn(command.Erase, 6))
	for kind := command.Put; kind <= command.LastOne; kind++ {
		for what, change := range map[string]func(x *command.Command){
			"client":     func(x *command.Command) { x.Client = -1 },
			"seq":        func(x *command.Command) { x.Seq = 1<<30 + 1 },
			"name":       func(x *command.Command) { x.Name = strings.Repeat("n", 33) },
			"size":       func(x *command.Command) { x.Size = 4001 },
			"disk":       func(x *command.Command) { x.Disks = []int{6} },
			"order":      func(x *command.Command) { x.Disks = []int{1, 0} },
			"pool":       func(x *command.Command) { x.Pool = 2 },
			"pool -1":    func(x *command.Command) { x.Pool = -1 },
			"volume":     func(x *command.Command) { x.Vol = 12 },
			"volume -1":  func(x *command.Command) { x.Vol = -1 },
			"block":      func(x *command.Command) { x.At = -1 },
			"everything": func(x *command.Command) { *x = command.Command{Kind: kind, Vol: 12} },
		} {
			x := command.Command{Kind: kind, Name: "a", Blob: 7, Disks: []int{1}, Vol: 6}
			change(&x)
			wantFail(t, fmt.Sprint(kind, " with a wrong ", what), c, x, api.ErrForm)
		}
	}
	for _, kind := range []int{0, -1, 15, math.MinInt, math.MaxInt} {
		wantFail(t, fmt.Sprint("kind ", kind), c, command.Command{Kind: kind, Name: "a", Blob: 7, Disks: []int{1}}, api.ErrForm)
	}
}

// P13.1: a Put adds a blob, and the name belongs to it.
func TestPut(t *testing.T) {
	c := catalog.New()
	long := strings.Repeat("n", 32)
	wantDone(t, "Put", c, put(9, "b", 4000, math.MaxUint32, 0, 1, 2, 3, 4, 5), put(1, "a", 0, 0, 5), put(math.MaxUint64, long, 1, 2, 3))
	wantBlobs(t, "Put", c,
		`1 "a" 0 0; [5]; `+none+" "+none+"; 0",
		`9 "b" 4000 4294967295; [0 1 2 3 4 5]; `+none+" "+none+"; 0",
		fmt.Sprintf(`%d %q 1 2; [3]; %s %s; 0`, uint64(math.MaxUint64), long, none, none))
	want(t, "List", told(c.Apply(named(command.List, "x"))), fmt.Sprintf(`0: 0 0 0 ["a" "b" %q]`, long))
	wantVols(t, "volumes", c)
}

// P13.1: each error of a Put, in their order.
func TestPutErrors(t *testing.T) {
	c := with(t, put(7, "a", 5, 6, 0, 2), put(8, "b", 1, 1, 1), named(command.Delete, "b"))
	wantFail(t, "no name", c, put(1, "", 0, 0, 1), api.ErrArg)
	wantFail(t, "blob 0", c, put(0, "c", 0, 0, 1), api.ErrArg)
	wantFail(t, "no disks", c, put(1, "c", 0, 0), api.ErrArg)
	wantFail(t, "a blob that is there, and no name", c, put(7, "", 0, 0, 1), api.ErrArg)
	wantFail(t, "a blob that is there, and no disks", c, put(7, "a", 0, 0), api.ErrArg)
	wantFail(t, "a blob that is there", c, put(7, "c", 0, 0, 1), api.ErrThere)
	wantFail(t, "the same Put again", c, put(7, "a", 5, 6, 0, 2), api.ErrThere)
	wantFail(t, "a dead blob that is there", c, put(8, "c", 0, 0, 1), api.ErrThere)
	wantFail(t, "a dead blob that is there, with its name", c, put(8, "b", 1, 1, 1), api.ErrThere)
}

// P13.1: the blob that had the name before is dead, and keeps what else it had.
func TestPutOfOldName(t *testing.T) {
	c := with(t, put(7, "a", 5, 6, 0, 2), taped(7, 1, 3), named(command.Get, "a"))
	wantDone(t, "Put", c, put(3, "a", 8, 9, 1))
	older := `7 "a" 5 6; [0 2]; ` + none + " 1/3; 1 dead"
	newer := `3 "a" 8 9; [1]; ` + none + " " + none + "; 0"
	wantBlobs(t, "Put", c, newer, older)
	want(t, "Stat", told(c.Apply(named(command.Stat, "a"))), "0: 3 8 9 []")
	want(t, "List", told(c.Apply(named(command.List, ""))), `0: 0 0 0 ["a"]`)
	apply(t, c, of(command.Unpin, 7), of(command.Forget, 7))
	want(t, "Stat after the older one was forgotten", told(c.Apply(named(command.Stat, "a"))), "0: 3 8 9 []")
	apply(t, c, named(command.Delete, "a"), put(7, "a", 1, 2, 3))
	want(t, "Stat of the forgotten ID, put again", told(c.Apply(named(command.Stat, "a"))), "0: 7 1 2 []")
}

// P13.1: Get, Delete and Stat.
func TestNames(t *testing.T) {
	c := with(t, put(7, "a", 5, 6, 0, 2), put(8, "ab", 1, 2, 1))
	blob := func(pins string) string { return `7 "a" 5 6; [0 2]; ` + none + " " + none + "; " + pins }
	other := `8 "ab" 1 2; [1]; ` + none + " " + none + "; 0"
	for _, kind := range []int{command.Get, command.Delete, command.Stat} {
		for _, name := range []string{"", "b", "A", "a\x00", "abc", strings.Repeat("a", 32)} {
			wantFail(t, fmt.Sprintf("%d of %q", kind, name), c, named(kind, name), api.ErrNone)
		}
	}
	want(t, "Stat", told(c.Apply(named(command.Stat, "a"))), "0: 7 5 6 []")
	wantBlobs(t, "Stat", c, blob("0"), other)
	for _, pins := range []string{"1", "2", "3"} {
		want(t, "Get", told(c.Apply(named(command.Get, "a"))), "0: 7 5 6 []")
		wantBlobs(t, "Get", c, blob(pins), other)
	}
	want(t, "Delete", told(c.Apply(named(command.Delete, "a"))), "0: 7 5 6 []")
	wantBlobs(t, "Delete", c, blob("3 dead"), other)
	for _, kind := range []int{command.Get, command.Delete, command.Stat} {
		wantFail(t, fmt.Sprint(kind, " of a deleted name"), c, named(kind, "a"), api.ErrNone)
	}
	want(t, "List", told(c.Apply(named(command.List, ""))), `0: 0 0 0 ["ab"]`)
}

// P13.1: a List returns all names in ascending order, bytewise.
func TestList(t *testing.T) {
	c := catalog.New()
	for i, name := range []string{"b", "a", "ab", "\xff", "B", "a\x00", "10", "9", "é"} {
		apply(t, c, put(uint64(100-i), name, 0, 0, 0))
	}
	apply(t, c, named(command.Delete, "9"), put(7, "b", 0, 0, 0))
	before := c.Write()
	for _, name := range []string{"", "a", "none"} {
		want(t, "List", told(c.Apply(named(command.List, name))), `0: 0 0 0 ["10" "B" "a" "a\x00" "ab" "b" "é" "\xff"]`)
	}
	want(t, "List: changed", c.Write() != before, false)
}

// P13.1: each command about a blob is ErrNone if there is none, whatever else is wrong.
func TestNoBlob(t *testing.T) {
	c := with(t, put(7, "a", 5, 6, 0, 2), put(8, "b", 1, 1, 1), named(command.Delete, "b"), of(command.Forget, 8), turn(command.Close, 2))
	for _, id := range []uint64{0, 1, 8, math.MaxUint64} {
		for _, x := range []command.Command{of(command.Unpin, id), spread(id, 1), spread(id), taped(id, 0, 0), taped(id, 2, 0), of(command.Free, id), untape(id, 0), of(command.Forget, id)} {
			wantFail(t, fmt.Sprint(x.Kind, " of blob ", id), c, x, api.ErrNone)
		}
	}
}

// P13.1: Unpin, also of a dead blob.
func TestUnpin(t *testing.T) {
	c := with(t, put(7, "a", 5, 6, 0), put(8, "b", 5, 6, 0), named(command.Get, "a"), named(command.Get, "a"), named(command.Get, "b"))
	apply(t, c, named(command.Delete, "a"))
	wantDone(t, "Unpin", c, of(command.Unpin, 7))
	wantBlobs(t, "Unpin", c, `7 "a" 5 6; [0]; `+none+" "+none+"; 1 dead", `8 "b" 5 6; [0]; `+none+" "+none+"; 1")
	wantDone(t, "Unpin", c, of(command.Unpin, 7), of(command.Unpin, 8))
	wantFail(t, "Unpin of a dead blob without pins", c, of(command.Unpin, 7), api.ErrOrder)
	wantFail(t, "Unpin of a blob without pins", c, of(command.Unpin, 8), api.ErrOrder)
}

// P13.1: Spread replaces the disks of a blob, dead or not, unless it is on none.
func TestSpread(t *testing.T) {
	c := with(t, put(7, "a", 5, 6, 0, 1), put(8, "b", 5, 6, 0), named(command.Delete, "b"))
	wantFail(t, "Spread to no disks", c, spread(7), api.ErrArg)
	wantDone(t, "Spread", c, spread(7, 1, 3, 5), spread(8, 4))
	wantBlobs(t, "Spread", c, `7 "a" 5 6; [1 3 5]; `+none+" "+none+"; 0", `8 "b" 5 6; [4]; `+none+" "+none+"; 0 dead")
	wantDone(t, "the same again", c, spread(7, 1, 3, 5))
	apply(t, c, taped(7, 0, 1), taped(7, 1, 2), of(command.Free, 7))
	wantFail(t, "Spread of a blob that is on no disk", c, spread(7, 1), api.ErrOrder)
	wantFail(t, "Spread of it to no disks", c, spread(7), api.ErrArg)
}

// P13.1: Taped makes a copy that of the volume's pool, instead of one on another volume.
func TestTaped(t *testing.T) {
	c := with(t, put(7, "a", 5, 6, 0), put(8, "b", 5, 6, 0), named(command.Delete, "b"))
	blob := func(copies string) string { return `7 "a" 5 6; [0]; ` + copies + "; 0" }
	other := `8 "b" 5 6; [0]; ` + none + " 11/1073741824; 0 dead"
	wantDone(t, "Taped", c, taped(8, 11, 1<<30), taped(7, 0, 0))
	wantBlobs(t, "Taped", c, blob("0/0 "+none), other)
	wantFail(t, "Taped again", c, taped(7, 0, 0), api.ErrThere)
	wantFail(t, "Taped at another block", c, taped(7, 0, 9), api.ErrThere)
	wantDone(t, "Taped", c, taped(7, 3, 2))
	wantBlobs(t, "Taped to the other pool", c, blob("0/0 3/2"), other)
	wantDone(t, "Taped", c, taped(7, 10, 5), taped(7, 1, 6))
	wantBlobs(t, "Taped to other volumes", c, blob("10/5 1/6"), other)
	apply(t, c, turn(command.Close, 10), turn(command.Close, 4), turn(command.Erase, 6))
	wantFail(t, "Taped to its volume, which is closed", c, taped(7, 10, 5), api.ErrOrder)
	wantFail(t, "Taped to a closed volume", c, taped(7, 4, 0), api.ErrOrder)
	wantFail(t, "Taped to a volume that is marked for erasure", c, taped(7, 6, 0), api.ErrOrder)
	apply(t, c, turn(command.Erased, 6))
	wantDone(t, "Taped to an erased volume", c, taped(7, 6, 0))
	wantBlobs(t, "Taped to an erased volume", c, blob("6/0 1/6"), other)
	apply(t, c, of(command.Free, 7))
	wantDone(t, "Taped of a blob that is on no disk", c, taped(7, 2, 1))
	wantBlobs(t, "Taped of a blob that is on no disk", c, `7 "a" 5 6; []; 2/1 1/6; 0`, other)
}

// P13.1: Free removes a blob from its disks, if it has copies in both pools.
func TestFree(t *testing.T) {
	c := with(t, put(7, "a", 5, 6, 0, 4), put(8, "b", 5, 6, 0), put(9, "c", 5, 6, 0))
	wantFail(t, "Free without copies", c, of(command.Free, 7), api.ErrOrder)
	apply(t, c, taped(7, 2, 3), taped(8, 1, 3), taped(9, 0, 1), taped(9, 1, 1), named(command.Delete, "c"))
	wantFail(t, "Free with a copy in pool 0", c, of(command.Free, 7), api.ErrOrder)
	wantFail(t, "Free with a copy in pool 1", c, of(command.Free, 8), api.ErrOrder)
	apply(t, c, taped(7, 5, 4), named(command.Get, "a"))
	wantDone(t, "Free", c, of(command.Free, 7), of(command.Free, 9))
	wantBlobs(t, "Free", c, `7 "a" 5 6; []; 2/3 5/4; 1`, `8 "b" 5 6; [0]; `+none+" 1/3; 0", `9 "c" 5 6; []; 0/1 1/1; 0 dead`)
	wantFail(t, "Free again", c, of(command.Free, 7), api.ErrOrder)
}

// P13.1: Untape removes the copy of a pool, unless nothing else is left.
func TestUntape(t *testing.T) {
	c := with(t, put(7, "a", 5, 6, 0, 4))
	for pool := range 2 {
		wantFail(t, "Untape without a copy", c, untape(7, pool), api.ErrOrder)
		apply(t, c, taped(7, 2+pool, 1))
		wantFail(t, "Untape of the other pool", c, untape(7, 1-pool), api.ErrOrder)
		wantDone(t, "Untape of a blob that is on disks", c, untape(7, pool))
		wantBlobs(t, "Untape of a blob that is on disks", c, `7 "a" 5 6; [0 4]; `+none+" "+none+"; 0")
	}
	for pool, left := range []string{none + " 3/1", "2/1 " + none} {
		c := with(t, put(7, "a", 5, 6, 0, 4), taped(7, 2, 1), taped(7, 3, 1), of(command.Free, 7))
		wantDone(t, "Untape of a blob on no disk", c, untape(7, pool))
		wantBlobs(t, "Untape of a blob on no disk", c, `7 "a" 5 6; []; `+left+"; 0")
		wantFail(t, "Untape again", c, untape(7, pool), api.ErrOrder)
		wantFail(t, "Untape of the last copy", c, untape(7, 1-pool), api.ErrOrder)
		wantFail(t, "Free of a blob with one copy, on no disk", c, of(command.Free, 7), api.ErrOrder)
		apply(t, c, named(command.Delete, "a"))
		wantFail(t, "Untape of the last copy of a dead blob", c, untape(7, 1-pool), api.ErrOrder)
		apply(t, c, taped(7, 4+pool, 9))
		wantDone(t, "Untape after the pool has a copy again", c, untape(7, 1-pool))
	}
}

// P13.1: Forget removes a blob that is dead and not pinned.
func TestForget(t *testing.T) {
	c := with(t, put(7, "a", 5, 6, 0), named(command.Get, "a"), taped(7, 0, 0), put(8, "b", 1, 2, 3))
	wantFail(t, "Forget of a blob that is pinned and not dead", c, of(command.Forget, 7), api.ErrOrder)
	wantFail(t, "Forget of a blob that is not dead", c, of(command.Forget, 8), api.ErrOrder)
	apply(t, c, named(command.Delete, "a"))
	wantFail(t, "Forget of a dead blob that is pinned", c, of(command.Forget, 7), api.ErrOrder)
	apply(t, c, of(command.Unpin, 7))
	wantDone(t, "Forget", c, of(command.Forget, 7))
	wantBlobs(t, "Forget", c, `8 "b" 1 2; [3]; `+none+" "+none+"; 0")
	n, _ := c.Live(0)
	want(t, "Live of its volume", n, 0)
	wantFail(t, "Forget again", c, of(command.Forget, 7), api.ErrNone)
}

// P13.1: Close, Erase and Erased.
func TestVolumes(t *testing.T) {
	c := with(t, put(7, "a", 5, 6, 0), taped(7, 2, 1))
	wantDone(t, "Close", c, turn(command.Close, 2), turn(command.Close, 11), turn(command.Close, 11))
	wantVols(t, "Close", c, "2 {true false 0}", "11 {true false 0}")
	wantFail(t, "Erased of a volume that is not closed", c, turn(command.Erased, 0), api.ErrOrder)
	wantFail(t, "Erased of a volume that is closed", c, turn(command.Erased, 11), api.ErrOrder)
	wantFail(t, "Erase of a volume with a copy", c, turn(command.Erase, 2), api.ErrBusy)
	apply(t, c, named(command.Delete, "a"))
	wantFail(t, "Erase of a volume with a copy of a dead blob", c, turn(command.Erase, 2), api.ErrBusy)
	apply(t, c, untape(7, 0))
	wantDone(t, "Erase", c, turn(command.Erase, 2), turn(command.Erase, 11), turn(command.Erase, 4), turn(command.Erase, 4), turn(command.Close, 4))
	wantVols(t, "Erase", c, "2 {true true 0}", "4 {true true 0}", "11 {true true 0}")
	wantDone(t, "Erased", c, turn(command.Erased, 2), turn(command.Erased, 4))
	wantVols(t, "Erased", c, "2 {false false 1}", "4 {false false 1}", "11 {true true 0}")
	wantFail(t, "Erased again", c, turn(command.Erased, 2), api.ErrOrder)
	wantDone(t, "again", c, turn(command.Erase, 2), turn(command.Erased, 2), turn(command.Close, 2))
	wantVols(t, "again", c, "2 {true false 2}", "4 {false false 1}", "11 {true true 0}")
}

// P13.1: blobs by ID and by name.
func TestQueries(t *testing.T) {
	c := with(t, put(7, "a", 5, 6, 0), put(9, "a", 1, 2, 3), put(8, "b", 3, 4, 5))
	zero := tell(catalog.Blob{})
	older, newer, other := `7 "a" 5 6; [0]; `+none+" "+none+"; 0 dead", `9 "a" 1 2; [3]; `+none+" "+none+"; 0", `8 "b" 3 4; [5]; `+none+" "+none+"; 0"
	for id, text := range map[uint64]string{0: zero, 1: zero, 7: older, 8: other, 9: newer, 10: zero, math.MaxUint64: zero} {
		b, ok := c.Blob(id)
		want(t, fmt.Sprint("Blob ", id), tell(b), text)
		want(t, fmt.Sprint("Blob ", id), ok, text != zero)
	}
	for name, text := range map[string]string{"": zero, "a": newer, "b": other, "c": zero, "ab": zero, strings.Repeat("a", 100): zero} {
		b, ok := c.Named(name)
		want(t, "Named "+name, tell(b), text)
		want(t, "Named "+name, ok, text != zero)
	}
	apply(t, c, named(command.Delete, "a"))
	_, ok := c.Named("a")
	want(t, "Named of a deleted name", ok, false)
}

// P13.1: Live counts all blobs with a copy on a volume, dead or not, and their pins.
func TestLive(t *testing.T) {
	c := with(t, put(7, "a", 5, 6, 0), put(8, "b", 3, 4, 5), put(9, "c", 1, 1, 1), put(10, "d", 1, 1, 1))
	apply(t, c, taped(7, 0, 0), taped(7, 1, 0), taped(8, 0, 2), taped(9, 2, 0), taped(9, 1, 2))
	apply(t, c, named(command.Get, "a"), named(command.Get, "a"), named(command.Get, "b"), named(command.Get, "d"), named(command.Delete, "a"))
	for vol := -20; vol < 20; vol++ {
		n, pins := c.Live(vol)
		want(t, fmt.Sprint("Live of ", vol), n, map[int]int{0: 2, 1: 2, 2: 1}[vol])
		want(t, fmt.Sprint("Live of ", vol, ": pins"), pins, map[int]int{0: 3, 1: 2}[vol])
	}
}

// K7: volumes that there are not.
func TestNoVolume(t *testing.T) {
	c := with(t, put(7, "a", 5, 6, 0), taped(7, 0, 0), turn(command.Close, 0), turn(command.Close, 11))
	for _, vol := range []int{-1, -2, 12, 13, math.MinInt, math.MaxInt} {
		n, pins := c.Live(vol)
		want(t, "Live", n+pins, 0)
		want(t, "Vol", c.Vol(vol), catalog.Vol{})
		catalog.Pool(vol)
	}
}

// K3: arguments stay as they are, and results share no memory with them, with the catalog or with each other.
func TestNothingIsShared(t *testing.T) {
	c := catalog.New()
	disks := []int{0, 2, 4, 5}
	apply(t, c, put(7, "a", 5, 6, disks[:2]...))
	disks[0] = 1
	more := []int{1, 3, 4, 5}
	apply(t, c, put(8, "b", 5, 6, 0), spread(8, more[:2]...))
	more[0] = 2
	want(t, "spare capacity", fmt.Sprint(disks, more), "[1 2 4 5] [2 3 4 5]")
	first, second := `7 "a" 5 6; [0 2]; `+none+" "+none+"; 0", `8 "b" 5 6; [1 3]; `+none+" "+none+"; 0"
	wantBlobs(t, "after arguments were changed", c, first, second)
	spoil := func(b catalog.Blob) {
		b.Disks[0] = 5
		_ = append(b.Disks[:1], 5)
	}
	for _, b := range c.Blobs() {
		spoil(b)
	}
	for _, get := range []func() (catalog.Blob, bool){
		func() (catalog.Blob, bool) { return c.Blob(7) },
		func() (catalog.Blob, bool) { return c.Named("a") },
	} {
		one, _ := get()
		two, _ := get()
		spoil(one)
		want(t, "another result", tell(two), first)
	}
	c.Apply(named(command.List, "")).Names[0] = "z"
	wantBlobs(t, "after results were changed", c, first, second)
	want(t, "List", told(c.Apply(named(command.List, ""))), `0: 0 0 0 ["a" "b"]`)
}
