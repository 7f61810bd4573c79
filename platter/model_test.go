package platter_test

import (
	"fmt"
	"math/rand"
	"slices"
	"strings"
	"testing"

	"glacier/api"
	"glacier/platter"
)

// model is a disk as the chapter describes it, without any thought for its speed: what does not exist is not in the map.
type model struct {
	room      int
	now, sure map[string]string
}

func (m *model) names() []string {
	both := map[string]bool{}
	for name := range m.now {
		both[name] = true
	}
	for name := range m.sure {
		both[name] = true
	}
	var l []string
	for name := range both {
		l = append(l, name)
	}
	slices.Sort(l)
	return l
}

func (m *model) used() int {
	sum := 0
	for _, name := range m.names() {
		sum += max(len(m.now[name]), len(m.sure[name]))
	}
	return sum
}

func (m *model) differs(name string) bool {
	now, is := m.now[name]
	sure, was := m.sure[name]
	return is != was || now != sure
}

func (m *model) write(name, s string) api.Errno {
	if name == "" {
		return api.ErrArg
	}
	before, was := m.now[name]
	m.now[name] = s
	if m.used() <= m.room {
		return api.OK
	}
	delete(m.now, name)
	if was {
		m.now[name] = before
	}
	return api.ErrFull
}

func (m *model) remove(names ...string) api.Errno {
	for _, name := range names {
		if _, is := m.now[name]; !is {
			return api.ErrNone
		}
	}
	for _, name := range names {
		delete(m.now, name)
	}
	return api.OK
}

func set(files map[string]string, name, s string, exists bool) {
	delete(files, name)
	if exists {
		files[name] = s
	}
}

func (m *model) sync(names ...string) {
	if len(names) == 0 {
		names = m.names()
	}
	for _, name := range names {
		s, is := m.now[name]
		set(m.sure, name, s, is)
	}
}

func (m *model) crash(choice []int) {
	for _, name := range m.names() {
		if !m.differs(name) {
			continue
		}
		c := 0
		if len(choice) > 0 {
			c, choice = choice[0], choice[1:]
		}
		now, is := m.now[name]
		sure, was := m.sure[name]
		if is && len(now) > len(sure) && strings.HasPrefix(now, sure) {
			n := len(now) - len(sure) + 1
			if k := (c%n + n) % n; k != 0 {
				sure, was = now[:len(sure)+k], true
			}
		} else if c%2 != 0 {
			sure, was = now, is
		}
		set(m.now, name, sure, was)
		set(m.sure, name, sure, was)
	}
}

func (m *model) spoil(name string, at int, by byte) bool {
	if m.differs(name) || at < 0 || at >= len(m.now[name]) {
		return false
	}
	b := []byte(m.now[name])
	b[at] ^= by
	m.now[name], m.sure[name] = string(b), string(b)
	return true
}

func (m *model) compare(t *testing.T, what string, d *platter.Disk) {
	t.Helper()
	var files []string
	safe := true
	for _, name := range m.names() {
		if s, is := m.now[name]; is {
			files = append(files, name+"="+s)
		}
		safe = safe && !m.differs(name)
	}
	wantFiles(t, what, d, files...)
	wantUsed(t, what, d, m.used())
	want(t, what+": Safe", d.Safe(), safe)
	if d.Used() > d.Room() {
		t.Errorf("%s: more than the capacity is used", what)
	}
}

func anyChoice(r *rand.Rand) []int {
	var l []int
	for range r.Intn(5) {
		l = append(l, r.Intn(20)-6)
	}
	return l
}

func anyNames(r *rand.Rand) []string {
	var l []string
	for range r.Intn(4) {
		l = append(l, anyName(r))
	}
	return l
}

func anyName(r *rand.Rand) string {
	return []string{"", "a", "b", "c", "d", "e", "b", "c"}[r.Intn(8)]
}

// step makes a call on both, and says which.
func (m *model) step(t *testing.T, r *rand.Rand, d *platter.Disk) string {
	name, s := anyName(r), "xyxyxyxyxy"[:r.Intn(9)]
	names, choice := anyNames(r), anyChoice(r)
	switch r.Intn(12) {
	case 0, 1:
		want(t, "Write", d.Write(name, s), m.write(name, s))
		return fmt.Sprintf("Write %q %q", name, s)
	case 2, 3, 4, 5:
		want(t, "Append", d.Append(name, s), m.write(name, m.now[name]+s))
		return fmt.Sprintf("Append %q %q", name, s)
	case 6, 7:
		want(t, "Remove", d.Remove(names...), m.remove(names...))
		return fmt.Sprintf("Remove %q", names)
	case 8, 9:
		m.sync(names...)
		want(t, "Sync", d.Sync(names...), api.OK)
		return fmt.Sprintf("Sync %q", names)
	case 10:
		m.crash(choice)
		d.Crash(choice)
		return fmt.Sprintf("Crash %v", choice)
	}
	at, by := r.Intn(8)-1, byte(r.Intn(3))
	want(t, "Spoil", d.Spoil(name, at, by), m.spoil(name, at, by))
	return fmt.Sprintf("Spoil %q %d %d", name, at, by)
}

// P4.1, P4.2, P4.3: after any sequence of calls the disk is what the chapter says.
func TestAgainstModel(t *testing.T) {
	for seed := range int64(300) {
		r := rand.New(rand.NewSource(seed))
		room := r.Intn(60)
		d := platter.New(room)
		m := &model{room: room, now: map[string]string{}, sure: map[string]string{}}
		var steps []string
		for range 100 {
			steps = append(steps, m.step(t, r, d))
			m.compare(t, steps[len(steps)-1], d)
			if t.Failed() {
				t.Fatalf("seed %d, room %d: %s", seed, room, strings.Join(steps, "; "))
			}
		}
	}
}

// P4.2: what was synced and not changed since survives any crash, and what else is there was written.
func TestSyncedSurvives(t *testing.T) {
	for seed := range int64(300) {
		r := rand.New(rand.NewSource(seed))
		d := platter.New(1000)
		written := map[string][]string{} // all that each file has had
		synced := map[string]string{}    // what was synced and not changed since, except by Append
		for i := range 60 {
			name := fmt.Sprint("f", r.Intn(4))
			s := fmt.Sprint(i, ".")
			switch r.Intn(8) {
			case 0:
				must(t, d.Write(name, s))
				delete(synced, name)
			case 1, 2, 3, 4:
				must(t, d.Append(name, s))
			case 5:
				d.Remove(name)
				delete(synced, name)
			case 6:
				must(t, d.Sync(name))
				if s, e := d.Read(name); e == api.OK {
					synced[name] = s
				}
			case 7:
				d.Crash(anyChoice(r))
				survives(t, d, written, synced)
			}
			if s, e := d.Read(name); e == api.OK {
				written[name] = append(written[name], s)
			}
		}
	}
}

func survives(t *testing.T, d *platter.Disk, written map[string][]string, synced map[string]string) {
	t.Helper()
	for name, s := range synced {
		if got, e := d.Read(name); e != api.OK || !strings.HasPrefix(got, s) {
			t.Fatalf("%s was synced as %q, and is %q, %d", name, s, got, e)
		}
	}
	names, _ := d.Names()
	for _, name := range names {
		got, _ := d.Read(name)
		part := func(s string) bool { return strings.HasPrefix(s, got) }
		if !slices.ContainsFunc(written[name], part) {
			t.Fatalf("%s is %q, and was only %q", name, got, written[name])
		}
	}
}
