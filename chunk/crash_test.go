package chunk_test

import (
	"fmt"
	"math/rand"
	"slices"
	"strings"
	"testing"

	"glacier/api"
	"glacier/chunk"
	"glacier/platter"
)

// model is the chunks that a store has, and those that it had after each change since it was last synced.
type model struct {
	now    map[uint64]string
	states []string
}

func (m *model) tell() string {
	var l []string
	for id := range m.now {
		l = append(l, fmt.Sprint(id, "=", m.now[id]))
	}
	slices.Sort(l) // the IDs of these tests have one digit
	return strings.Join(l, " ")
}

func (m *model) synced() {
	m.states = []string{m.tell()}
}

func (m *model) put(id uint64, data string) {
	m.now[id] = data
	m.states = append(m.states, m.tell())
}

func (m *model) drop(id uint64) {
	delete(m.now, id)
	m.states = append(m.states, m.tell())
}

// crashed returns a store on the disk after a crash, which has to have the chunks of one of the states.
func (m *model) crashed(t *testing.T, what string, d *platter.Disk, limit int, choice []int) *chunk.Store {
	t.Helper()
	d.Crash(choice)
	d.Fail(-1)
	s := open(t, d, limit)
	found := chunks(t, s)
	if !slices.Contains(m.states, found) {
		t.Fatalf("%s, Crash %v: %q is not one of %q", what, choice, found, m.states)
	}
	m.now = map[uint64]string{}
	for _, id := range s.IDs() {
		m.now[id], _ = s.Get(id)
	}
	m.synced()
	return s
}

// step makes a call on both, unless the disk fails it.
func (m *model) step(s *chunk.Store, call, id uint64, data string) (string, api.Errno) {
	old, is := m.now[id]
	switch call {
	case 0:
		e := s.Sync()
		if e == api.OK {
			m.synced()
		}
		return "Sync", e
	case 1:
		e := s.Compact()
		if e == api.OK {
			m.synced()
		}
		return "Compact", e
	case 2, 3:
		if !is {
			break
		}
		e := s.Drop(id)
		if e == api.OK {
			m.drop(id)
		}
		return fmt.Sprint("Drop ", id), e
	case 4, 5:
		got, e := s.Get(id)
		if !is && e != api.ErrNone || is && e == api.OK && got != old {
			return "wrong Get", -1
		}
		return fmt.Sprint("Get ", id), api.OK
	}
	e := s.Put(id, data)
	if is && e == api.ErrThere {
		return "Put again", api.OK
	}
	if e == api.OK {
		m.put(id, data)
	}
	return fmt.Sprintf("Put %d %q", id, data), e
}

func anyChoice(r *rand.Rand) []int {
	var l []int
	for range r.Intn(6) {
		l = append(l, r.Intn(60)-6)
	}
	return l
}

// P6.1, P6.2: whatever the calls, faults and crashes are, Open finds all chunks, and after a crash those of a prefix.
func TestAgainstModel(t *testing.T) {
	for seed := range int64(1500) {
		r := rand.New(rand.NewSource(seed))
		limit := r.Intn(120)
		d := platter.New([]int{100, 200, 400, 1000}[r.Intn(4)])
		s := open(t, d, limit)
		m := &model{now: map[uint64]string{}}
		m.synced()
		var steps []string
		for range 60 {
			if r.Intn(8) == 0 {
				d.Fail(r.Intn(8))
			}
			step, e := m.step(s, uint64(r.Intn(12)), uint64(r.Intn(10)), "abcdefghijklmnopqrstuvwxyz"[:r.Intn(27)])
			steps = append(steps, fmt.Sprint(step, " (", e, ")"))
			what := fmt.Sprintf("seed %d, limit %d: %s", seed, limit, strings.Join(steps, "; "))
			if e != api.OK && e != api.ErrFull && e != api.ErrIO {
				t.Fatal(what)
			}
			if e == api.ErrIO || r.Intn(10) == 0 {
				s = m.crashed(t, what, d, limit, anyChoice(r))
				steps = append(steps, "Crash")
			}
			d.Fail(-1)
			wantChunks(t, what, s, d, m.tell())
			if t.Failed() {
				t.FailNow()
			}
		}
	}
}

// choices are for crashes: for up to three files each, how much of it is kept.
func choices() [][]int {
	some := []int{0, 1, 2, 13, 14, 25, 26, 27, 28, 43, 44, 45, 58, 59, 60, 61}
	var l [][]int
	for _, a := range some {
		for b := range 2 {
			l = append(l, []int{a, b, a}, []int{b, a, b})
		}
	}
	return l
}

// P6.2: wherever Compact is interrupted, and whatever the crash keeps, the chunks stay as they were; but for changes that were not synced before.
func TestCompactInterrupted(t *testing.T) {
	for _, limit := range []int{1, 40, 1000} {
		for n := range 20 {
			for _, choice := range choices() {
				d := platter.New(1000)
				s := open(t, d, limit)
				must(t, s.Put(1, "aaaa"), s.Put(2, "bb"), s.Put(3, "c"), s.Drop(1), s.Put(4, ""), s.Sync(), s.Drop(2))
				d.Fail(n)
				e := s.Compact()
				m := &model{now: map[uint64]string{2: "bb", 3: "c", 4: ""}}
				m.synced()
				if m.drop(2); e == api.OK {
					m.synced()
				}
				what := fmt.Sprintf("Compact, interrupted at %d, limit %d", n, limit)
				s = m.crashed(t, what, d, limit, choice)
				must(t, s.Put(1, "new"), s.Compact(), s.Put(5, "five"), s.Sync())
				m.put(1, "new")
				m.put(5, "five")
				d.Crash(choice)
				wantChunks(t, what, open(t, d, limit), d, m.tell())
			}
		}
	}
}

// P6.1, P6.2: a Compact that is interrupted without a crash changes no chunks either.
func TestCompactInterruptedWithoutCrash(t *testing.T) {
	done := false
	for n := range 20 {
		d := platter.New(1000)
		s := open(t, d, 40)
		must(t, s.Put(1, "aaaa"), s.Put(2, "bb"), s.Put(3, "c"), s.Drop(1))
		d.Fail(n)
		e := s.Compact()
		done = done || e == api.OK
		want(t, "once it succeeds", done, e == api.OK)
		d.Fail(-1)
		wantChunks(t, fmt.Sprint("interrupted at ", n), open(t, d, 40), d, "2=bb 3=c")
	}
	want(t, "it succeeds", done, true)
}

// P6.2: what was synced, by Sync or Compact or since a new file was begun, survives.
func TestSynced(t *testing.T) {
	for _, c := range []struct {
		what  string
		limit int
		do    func(s *chunk.Store)
		want  string
	}{
		{"nothing is synced", 1000, func(s *chunk.Store) {}, ""},
		{"Sync", 1000, func(s *chunk.Store) { must(t, s.Sync()) }, "1=a 2=b 3=c"},
		{"Compact", 1000, func(s *chunk.Store) { must(t, s.Compact()) }, "1=a 2=b 3=c"},
		{"Sync and a change", 1000, func(s *chunk.Store) { must(t, s.Sync(), s.Drop(2)) }, "1=a 2=b 3=c"},
		{"Compact and a change", 1000, func(s *chunk.Store) { must(t, s.Compact(), s.Drop(2)) }, "1=a 2=b 3=c"},
		{"a change and Compact", 1000, func(s *chunk.Store) { must(t, s.Sync(), s.Drop(2), s.Compact()) }, "1=a 3=c"},
		{"new files", 1, func(s *chunk.Store) {}, "1=a 2=b"},
		{"new files and a change", 1, func(s *chunk.Store) { must(t, s.Drop(2)) }, "1=a 2=b 3=c"},
		{"new files and Compact", 1, func(s *chunk.Store) { must(t, s.Drop(2), s.Compact(), s.Put(2, "x")) }, "1=a 3=c"},
	} {
		d := platter.New(1000)
		s := open(t, d, c.limit)
		must(t, s.Put(1, "a"), s.Put(2, "b"), s.Put(3, "c"))
		c.do(s)
		d.Crash(nil)
		wantChunks(t, c.what, open(t, d, c.limit), d, c.want)
	}
}

// P6.2: a crash that keeps only some bytes keeps the records that are whole.
func TestPartOfChanges(t *testing.T) {
	records := []string{frame(1, 1, "aaa"), frame(1, 2, "b"), frame(2, 1, ""), frame(1, 3, "")}
	states := []string{"", "1=aaa", "1=aaa 2=b", "2=b", "2=b 3="}
	all := len(strings.Join(records, ""))
	for n := range all + 1 {
		d := platter.New(1000)
		s := open(t, d, 1000)
		must(t, s.Put(1, "aaa"), s.Put(2, "b"), s.Drop(1), s.Put(3, ""))
		d.Crash([]int{n})
		whole, end := 0, 0
		for _, r := range records {
			if end += len(r); end <= n {
				whole++
			}
		}
		s = open(t, d, 1000)
		wantChunks(t, fmt.Sprint(n, " bytes"), s, d, states[whole])
		must(t, s.Put(9, "z"))
		wantChunks(t, "a change after it", s, d, strings.TrimSpace(states[whole]+" 9=z"))
	}
}

// P6.1, P6.2: Compact makes the changes before it durable, also if it then finds no space or a spoilt chunk; and the removal of the files before.
func TestCompactSyncs(t *testing.T) {
	d := platter.New(100)
	s := open(t, d, 1)
	must(t, s.Put(1, "aaaa"), s.Put(2, "bbbb"), s.Put(3, "cccc"), s.Drop(1), d.Take(d.Free()))
	want(t, "Safe", d.Safe(), false)
	want(t, "Compact without space", s.Compact(), api.ErrFull)
	want(t, "Safe", d.Safe(), true)
	must(t, d.Give(40), s.Put(4, "dddd"))
	want(t, "Spoil", d.Spoil(chunk.Name(2), 9, 1), true)
	want(t, "Safe", d.Safe(), false)
	want(t, "Compact of a spoilt chunk", s.Compact(), api.ErrSum)
	want(t, "Safe", d.Safe(), true)
	d.Crash(nil)
	want(t, "Spoil", d.Spoil(chunk.Name(2), 9, 1), true)
	s = open(t, d, 1)
	wantChunks(t, "Crash", s, d, "2=bbbb 3=cccc 4=dddd")
	d = platter.New(1000)
	s = open(t, d, 1)
	must(t, s.Put(1, "aaaa"), s.Put(2, "bbbb"), s.Drop(1))
	want(t, "Compact", s.Compact(), api.OK)
	want(t, "Safe", d.Safe(), true)
	compacted := frame(3, 1, "") + frame(1, 2, "bbbb")
	want(t, "Used", d.Used(), len(compacted))
	d.Crash(nil)
	wantFiles(t, "Crash", d, chunk.Name(4), compacted)
}
