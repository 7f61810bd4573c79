package catalog_test

import (
	"fmt"
	"math/rand"
	"slices"
	"strings"
	"testing"

	"glacier/api"
	"glacier/catalog"
	"glacier/command"
	"glacier/wire"
)

// model is a catalog as the chapter describes it: its blobs in ascending order of IDs, and its volumes.
type model struct {
	l    []catalog.Blob
	vols [12]catalog.Vol
}

func (m *model) blob(id uint64) *catalog.Blob {
	for i := range m.l {
		if m.l[i].ID == id {
			return &m.l[i]
		}
	}
	return nil
}

func (m *model) named(name string) *catalog.Blob {
	for i := range m.l {
		if m.l[i].Name == name && !m.l[i].Dead {
			return &m.l[i]
		}
	}
	return nil
}

func (m *model) live(vol int) (int, int) {
	n, pins := 0, 0
	for _, b := range m.l {
		for _, t := range b.Copies {
			if t.There && t.Vol == vol {
				n, pins = n+1, pins+b.Pins
			}
		}
	}
	return n, pins
}

// apply returns the result of a command as told does it.
func (m *model) apply(x command.Command) string {
	if !x.Good() {
		return "3: 0 0 0 []"
	}
	var names []string
	switch x.Kind {
	case command.Put:
		return fmt.Sprintf("%d: 0 0 0 []", m.put(x))
	case command.Get, command.Delete, command.Stat:
		b := m.named(x.Name)
		if b == nil {
			return "5: 0 0 0 []"
		}
		if x.Kind == command.Get {
			b.Pins++
		}
		b.Dead = x.Kind == command.Delete
		return fmt.Sprintf("0: %d %d %d []", b.ID, b.Size, b.Sum)
	case command.List:
		for _, b := range m.l {
			if !b.Dead {
				names = append(names, b.Name)
			}
		}
		slices.Sort(names)
		return fmt.Sprintf("0: 0 0 0 %q", names)
	case command.Close, command.Erase, command.Erased:
		return fmt.Sprintf("%d: 0 0 0 []", m.turn(x.Kind, x.Vol))
	}
	return fmt.Sprintf("%d: 0 0 0 []", m.change(x))
}

func (m *model) put(x command.Command) api.Errno {
	switch {
	case x.Name == "" || x.Blob == 0 || len(x.Disks) == 0:
		return api.ErrArg
	case m.blob(x.Blob) != nil:
		return api.ErrThere
	}
	if old := m.named(x.Name); old != nil {
		old.Dead = true
	}
	m.l = append(m.l, catalog.Blob{ID: x.Blob, Name: x.Name, Size: x.Size, Sum: x.Sum, Disks: slices.Clone(x.Disks)})
	slices.SortFunc(m.l, func(a, b catalog.Blob) int {
		if a.ID < b.ID {
			return -1
		}
		return 1
	})
	return api.OK
}

func (m *model) turn(kind, vol int) api.Errno {
	n, _ := m.live(vol)
	switch {
	case kind == command.Erase && n > 0:
		return api.ErrBusy
	case kind == command.Erased && !m.vols[vol].Erase:
		return api.ErrOrder
	case kind == command.Erased:
		m.vols[vol].Gen++
	}
	m.vols[vol].Closed = kind != command.Erased
	m.vols[vol].Erase = kind == command.Erase || kind == command.Close && m.vols[vol].Erase
	return api.OK
}

// change applies the commands of movers about a blob.
func (m *model) change(x command.Command) api.Errno {
	b := m.blob(x.Blob)
	if b == nil {
		return api.ErrNone
	}
	onDisk := len(b.Disks) > 0
	there := [2]bool{b.Copies[0].There, b.Copies[1].There}
	switch x.Kind {
	case command.Unpin:
		if b.Pins == 0 {
			return api.ErrOrder
		}
		b.Pins--
	case command.Spread:
		if len(x.Disks) == 0 {
			return api.ErrArg
		}
		if !onDisk {
			return api.ErrOrder
		}
		b.Disks = slices.Clone(x.Disks)
	case command.Taped:
		if m.vols[x.Vol].Closed {
			return api.ErrOrder
		}
		if there[x.Vol%2] && b.Copies[x.Vol%2].Vol == x.Vol {
			return api.ErrThere
		}
		b.Copies[x.Vol%2] = catalog.Copy{There: true, Vol: x.Vol, At: x.At}
	case command.Free:
		if !onDisk || !there[0] || !there[1] {
			return api.ErrOrder
		}
		b.Disks = nil
	case command.Untape:
		if !there[x.Pool] || !onDisk && !there[1-x.Pool] {
			return api.ErrOrder
		}
		b.Copies[x.Pool] = catalog.Copy{}
	case command.Forget:
		if !b.Dead || b.Pins > 0 {
			return api.ErrOrder
		}
		m.l = slices.DeleteFunc(m.l, func(b catalog.Blob) bool { return b.ID == x.Blob })
	}
	return api.OK
}

// write returns the encoding as the chapter says it.
func (m *model) write() string {
	var e wire.Enc
	e.I(len(m.l))
	for _, b := range m.l {
		e.U(b.ID).S(b.Name).B(!b.Dead).I(b.Size).U(uint64(b.Sum)).List(b.Disks...)
		e.B(b.Copies[0].There).I(b.Copies[0].Vol).I(b.Copies[0].At)
		e.B(b.Copies[1].There).I(b.Copies[1].Vol).I(b.Copies[1].At).I(b.Pins)
	}
	for _, v := range m.vols {
		e.B(v.Closed).B(v.Erase).I(v.Gen)
	}
	return e.Bytes()
}

// compare compares all that can be seen of a catalog with its model.
func (m *model) compare(t *testing.T, c *catalog.Catalog) {
	t.Helper()
	want(t, "Write", c.Write(), m.write())
	var blobs []string
	for _, b := range m.l {
		blobs = append(blobs, tell(b))
	}
	wantBlobs(t, "Blobs", c, blobs...)
	for id := range uint64(9) {
		b, ok := c.Blob(id)
		wantSame(t, fmt.Sprint("Blob ", id), b, ok, m.blob(id))
	}
	for _, name := range someNames() {
		b, ok := c.Named(name)
		wantSame(t, "Named "+name, b, ok, m.named(name))
	}
	for vol := range 12 {
		n1, pins1 := c.Live(vol)
		n2, pins2 := m.live(vol)
		want(t, fmt.Sprint("Live of ", vol), n1, n2)
		want(t, fmt.Sprint("Live of ", vol, ": pins"), pins1, pins2)
		want(t, fmt.Sprint("Vol of ", vol), c.Vol(vol), m.vols[vol])
	}
}

func wantSame(t *testing.T, what string, b catalog.Blob, ok bool, wanted *catalog.Blob) {
	t.Helper()
	want(t, what, ok, wanted != nil)
	if wanted == nil {
		wanted = &catalog.Blob{}
	}
	want(t, what, tell(b), tell(*wanted))
}

func someNames() []string {
	return []string{"", "a", "b", "ab", "\xff"}
}

// anyCommand returns a command with few different values, so that it often meets those of others; a few are not Good.
func anyCommand(r *rand.Rand) command.Command {
	var disks []int
	for n := range 6 {
		if r.Intn(3) == 0 {
			disks = append(disks, n)
		}
	}
	x := command.Command{
		Kind:   1 + r.Intn(14),
		Client: r.Intn(3),
		Seq:    r.Intn(3),
		Name:   someNames()[r.Intn(5)],
		Blob:   uint64(r.Intn(9)),
		Size:   r.Intn(4001),
		Sum:    r.Uint32(),
		Disks:  disks,
		Pool:   r.Intn(2),
		Vol:    r.Intn(4) + 8*r.Intn(2),
		At:     r.Intn(3),
	}
	if r.Intn(2) == 0 { // as many of these as of all others, so that blobs come to be on no disk
		x.Kind = []int{command.Put, command.Taped, command.Taped, command.Taped, command.Free}[r.Intn(5)]
	}
	switch r.Intn(100) {
	case 0:
		x.Kind = 15
	case 1:
		x.Disks = []int{3, 3}
	case 2:
		x.Vol = 12
	case 3:
		x.Pool = -1
	}
	return x
}

// keeper checks KEPT; had is the pools in which each blob has had a copy so far.
type keeper struct {
	had map[uint64][2]bool
}

// check checks P13.3, and returns how many blobs are on no disk and not dead.
func (k *keeper) check(t *testing.T, c *catalog.Catalog) int {
	t.Helper()
	had := map[uint64][2]bool{}
	away := 0
	for _, b := range c.Blobs() {
		pools := k.had[b.ID]
		for pool, copied := range b.Copies {
			pools[pool] = pools[pool] || copied.There
			if copied.There && c.Vol(copied.Vol).Erase {
				t.Errorf("volume %d is marked for erasure, and has a copy of blob %d", copied.Vol, b.ID)
			}
		}
		had[b.ID] = pools
		if b.Dead || len(b.Disks) > 0 {
			continue
		}
		away++
		if !b.Copies[0].There && !b.Copies[1].There {
			t.Errorf("blob %d is nowhere", b.ID)
		}
		if pools != [2]bool{true, true} {
			t.Errorf("blob %d is on no disk, and has had copies in %v", b.ID, pools)
		}
	}
	k.had = had // without the blobs that were forgotten
	return away
}

// P13.1, P13.2, P13.3: any commands have the chapter's results, also in a catalog that was written and read in between; an error changes nothing; and KEPT.
func TestAgainstModel(t *testing.T) {
	seen := map[string]int{}
	away := 0
	for seed := range int64(80) {
		r := rand.New(rand.NewSource(seed))
		c, again, m, k := catalog.New(), catalog.New(), &model{}, &keeper{}
		var steps []string
		for range 200 {
			x := anyCommand(r)
			before := m.write()
			result := m.apply(x)
			steps = append(steps, fmt.Sprintf("%+v -> %s", x, result))
			seen[fmt.Sprint(x.Kind, " ", result[:strings.Index(result, ":")])]++
			if !strings.HasPrefix(result, "0:") {
				want(t, "the model after an error", m.write(), before)
			}
			want(t, "Apply", told(c.Apply(x)), result)
			want(t, "Apply after Read", told(again.Apply(x)), result)
			m.compare(t, c)
			want(t, "Write after Read", again.Write(), c.Write())
			away += k.check(t, c)
			if r.Intn(4) == 0 {
				again = reread(t, c)
				m.compare(t, again)
			}
			if t.Failed() {
				t.Fatalf("seed %d:\n%s", seed, strings.Join(steps, "\n"))
			}
		}
	}
	wantSeen(t, seen, away)
}

// wantSeen checks that the random commands met each result that the chapter names, and blobs on no disk.
func wantSeen(t *testing.T, seen map[string]int, away int) {
	t.Helper()
	for kind, errs := range [][]api.Errno{
		command.Put:    {api.ErrArg, api.ErrThere},
		command.Get:    {api.ErrNone},
		command.Delete: {api.ErrNone},
		command.List:   {},
		command.Stat:   {api.ErrNone},
		command.Unpin:  {api.ErrNone, api.ErrOrder},
		command.Spread: {api.ErrNone, api.ErrArg, api.ErrOrder},
		command.Taped:  {api.ErrNone, api.ErrOrder, api.ErrThere},
		command.Free:   {api.ErrNone, api.ErrOrder},
		command.Untape: {api.ErrNone, api.ErrOrder},
		command.Forget: {api.ErrNone, api.ErrOrder},
		command.Close:  {},
		command.Erase:  {api.ErrBusy},
		command.Erased: {api.ErrOrder},
	} {
		if kind == 0 {
			continue
		}
		for _, e := range append(errs, api.OK, api.ErrForm) {
			if result := fmt.Sprint(kind, " ", int(e)); seen[result] < 5 {
				t.Errorf("kind %d had the result %d only %d times", kind, e, seen[result])
			}
		}
	}
	if away < 1000 {
		t.Errorf("only %d times a blob was on no disk", away)
	}
}

// reread returns the catalog that Read makes of what Write returns.
func reread(t *testing.T, c *catalog.Catalog) *catalog.Catalog {
	t.Helper()
	again, e := catalog.Read(c.Write())
	if e != api.OK {
		t.Fatalf("Read: %d", e)
	}
	return again
}
